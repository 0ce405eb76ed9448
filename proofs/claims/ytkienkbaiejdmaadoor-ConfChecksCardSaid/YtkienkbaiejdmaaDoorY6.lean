
/-
  The law ConfChecks of layer 28: the call comes to true.
-/
import Derived.Test.YtkienkbaiejdmaaDoorZ3
import Derived.Test.YtkienkbaiejdmaaDoorAEObj
import Derived.Test.YtkienkbaiejdmaaDoorY7
import Derived.Test.YtkienkbaiejdmaaDoorAETr
import Derived.MakeChecks
import Derived.Lib.LaidTab
import Derived.Test.YtkienkbaiejdmaaDoorMem
import Derived.Deep.Fields
namespace Go.Proofs.YtkienkbaiejdmaaDoor.AE
open Go.RowKit
def smS (b : Bool) (cs : List Cl) (row : AV) (i : Int) : List AV := [.lst 4 (cs.map clA) .no, .v (.bool b), .dead, .dead, .dead, row, gi i] ++ List.replicate 22 .dead
theorem sm_pre (ro : Nat → Option (List Value)) (b : Bool) (cs : List Cl) (R : Exit → List AV → AH → Prop) : codeL ro (fun _ => false) (fun _ => none) 8 ((flatten (bodyOf 11)).take 3) ([.lst 4 (cs.map clA) .no, .v (.bool b)] ++ List.replicate 27 (.v undef)) (hp [] []) (kp [0, 1, 5, 6] R) =
    (some (True ∧ (R Exit.normal [(AV.lst (4 : Nat) (List.map clA cs) Tip.no), (AV.v (Value.bool b)), AV.dead, AV.dead, AV.dead, (AV.v (Value.slice none (0 : Nat) (0 : Nat))), (AV.v (Value.int IntKind.i64 (0 : Int))), AV.dead, AV.dead, AV.dead, AV.dead, AV.dead, AV.dead, AV.dead, AV.dead, AV.dead, AV.dead, AV.dead, AV.dead, AV.dead, AV.dead, AV.dead, AV.dead, AV.dead, AV.dead, AV.dead, AV.dead, AV.dead, AV.dead] (AH.mk (@List.nil (Prod Go.TypeId (List AV))) (@List.nil Nat) (0 : Nat) (0 : Nat) true (@List.nil (Prod Nat Bool)) True)))) := by kernel_rfl
theorem sm_in (ro : Nat → Option (List Value)) (b : Bool) (cs os : List Cl) (v : Nat) (i : Int) (R : Exit → List AV → AH → Prop) : code ro (fun _ => false) (fun _ => none) 8 (sub (bodyOf 11) [1, 1, 0, 1, 0, 0]) (smS b cs (.lst 4 (os.map clA) (.tp 0 v)) i) (hp [] [v]) (kp [0, 1, 5, 6] R) =
    (bif (decide (i < ((List.length (List.map clA cs)) : Int))) then (bif (((exInt (List.getD (AV.cells (List.getD (List.map clA cs) (Int.toNat i) AV.dead)) (1 : Nat) AV.dead)) == (0 : Int)) == b) then (some ((cdb (cds (cds True (elemB Tryd.prog (47 : Nat) (List.map clA cs) i) (((0 : Int) ≤ i) ∧ (((List.map clA cs)[(Int.toNat i)]?) = (some (AV.v (Value.agg #[(Value.int IntKind.i64 (exInt (List.getD (AV.cells (List.getD (List.map clA cs) (Int.toNat i) AV.dead)) (0 : Nat) AV.dead))), (Value.int IntKind.i64 (exInt (List.getD (AV.cells (List.getD (List.map clA cs) (Int.toNat i) AV.dead)) (1 : Nat) AV.dead))), (Value.int IntKind.i64 (exInt (List.getD (AV.cells (List.getD (List.map clA cs) (Int.toNat i) AV.dead)) (2 : Nat) AV.dead))), (Value.int IntKind.i64 (exInt (List.getD (AV.cells (List.getD (List.map clA cs) (Int.toNat i) AV.dead)) (3 : Nat) AV.dead)))])))))) (elemB Tryd.prog (47 : Nat) (List.map clA cs) i) (((0 : Int) ≤ i) ∧ (((List.map clA cs)[(Int.toNat i)]?) = (some (AV.v (Value.agg #[(Value.int IntKind.i64 (exInt (List.getD (AV.cells (List.getD (List.map clA cs) (Int.toNat i) AV.dead)) (0 : Nat) AV.dead))), (Value.int IntKind.i64 (exInt (List.getD (AV.cells (List.getD (List.map clA cs) (Int.toNat i) AV.dead)) (1 : Nat) AV.dead))), (Value.int IntKind.i64 (exInt (List.getD (AV.cells (List.getD (List.map clA cs) (Int.toNat i) AV.dead)) (2 : Nat) AV.dead))), (Value.int IntKind.i64 (exInt (List.getD (AV.cells (List.getD (List.map clA cs) (Int.toNat i) AV.dead)) (3 : Nat) AV.dead)))])))))) (decide ((((((List.length (List.map clA os)) + (List.length [(AV.v (Value.agg #[(Value.int IntKind.i64 (exInt (List.getD (AV.cells (List.getD (List.map clA cs) (Int.toNat i) AV.dead)) (0 : Nat) AV.dead))), (Value.int IntKind.i64 (exInt (List.getD (AV.cells (List.getD (List.map clA cs) (Int.toNat i) AV.dead)) (1 : Nat) AV.dead))), (Value.int IntKind.i64 (exInt (List.getD (AV.cells (List.getD (List.map clA cs) (Int.toNat i) AV.dead)) (2 : Nat) AV.dead))), (Value.int IntKind.i64 (exInt (List.getD (AV.cells (List.getD (List.map clA cs) (Int.toNat i) AV.dead)) (3 : Nat) AV.dead)))]))])) * (32 : Nat)) ≤ (140737488355328 : Nat)) ∧ (((List.length (List.map clA os)) + (List.length [(AV.v (Value.agg #[(Value.int IntKind.i64 (exInt (List.getD (AV.cells (List.getD (List.map clA cs) (Int.toNat i) AV.dead)) (0 : Nat) AV.dead))), (Value.int IntKind.i64 (exInt (List.getD (AV.cells (List.getD (List.map clA cs) (Int.toNat i) AV.dead)) (1 : Nat) AV.dead))), (Value.int IntKind.i64 (exInt (List.getD (AV.cells (List.getD (List.map clA cs) (Int.toNat i) AV.dead)) (2 : Nat) AV.dead))), (Value.int IntKind.i64 (exInt (List.getD (AV.cells (List.getD (List.map clA cs) (Int.toNat i) AV.dead)) (3 : Nat) AV.dead)))]))])) ≤ (9223372036854775807 : Nat))) ∧ (v = v)))) ∧ (R Exit.normal [(AV.lst (4 : Nat) (List.map clA cs) Tip.no), (AV.v (Value.bool b)), AV.dead, AV.dead, AV.dead, (AV.lst (4 : Nat) ((List.map clA os) ++ [(AV.v (Value.agg #[(Value.int IntKind.i64 (exInt (List.getD (AV.cells (List.getD (List.map clA cs) (Int.toNat i) AV.dead)) (0 : Nat) AV.dead))), (Value.int IntKind.i64 (exInt (List.getD (AV.cells (List.getD (List.map clA cs) (Int.toNat i) AV.dead)) (1 : Nat) AV.dead))), (Value.int IntKind.i64 (exInt (List.getD (AV.cells (List.getD (List.map clA cs) (Int.toNat i) AV.dead)) (2 : Nat) AV.dead))), (Value.int IntKind.i64 (exInt (List.getD (AV.cells (List.getD (List.map clA cs) (Int.toNat i) AV.dead)) (3 : Nat) AV.dead)))]))]) (Tip.tp (0 : Nat) (v + (1 : Nat)))), (AV.v (Value.int IntKind.i64 (IntKind.wrap IntKind.i64 (i + (1 : Int))))), AV.dead, AV.dead, AV.dead, AV.dead, AV.dead, AV.dead, AV.dead, AV.dead, AV.dead, AV.dead, AV.dead, AV.dead, AV.dead, AV.dead, AV.dead, AV.dead, AV.dead, AV.dead, AV.dead, AV.dead, AV.dead, AV.dead] (AH.mk (@List.nil (Prod Go.TypeId (List AV))) [(v + (1 : Nat))] (0 : Nat) (0 : Nat) true (@List.nil (Prod Nat Bool)) True)))) else (some ((cds True (elemB Tryd.prog (47 : Nat) (List.map clA cs) i) (((0 : Int) ≤ i) ∧ (((List.map clA cs)[(Int.toNat i)]?) = (some (AV.v (Value.agg #[(Value.int IntKind.i64 (exInt (List.getD (AV.cells (List.getD (List.map clA cs) (Int.toNat i) AV.dead)) (0 : Nat) AV.dead))), (Value.int IntKind.i64 (exInt (List.getD (AV.cells (List.getD (List.map clA cs) (Int.toNat i) AV.dead)) (1 : Nat) AV.dead))), (Value.int IntKind.i64 (exInt (List.getD (AV.cells (List.getD (List.map clA cs) (Int.toNat i) AV.dead)) (2 : Nat) AV.dead))), (Value.int IntKind.i64 (exInt (List.getD (AV.cells (List.getD (List.map clA cs) (Int.toNat i) AV.dead)) (3 : Nat) AV.dead)))])))))) ∧ (R Exit.normal [(AV.lst (4 : Nat) (List.map clA cs) Tip.no), (AV.v (Value.bool b)), AV.dead, AV.dead, AV.dead, (AV.lst (4 : Nat) (List.map clA os) (Tip.tp (0 : Nat) v)), (AV.v (Value.int IntKind.i64 (IntKind.wrap IntKind.i64 (i + (1 : Int))))), AV.dead, AV.dead, AV.dead, AV.dead, AV.dead, AV.dead, AV.dead, AV.dead, AV.dead, AV.dead, AV.dead, AV.dead, AV.dead, AV.dead, AV.dead, AV.dead, AV.dead, AV.dead, AV.dead, AV.dead, AV.dead, AV.dead] (AH.mk (@List.nil (Prod Go.TypeId (List AV))) [v] (0 : Nat) (0 : Nat) true (@List.nil (Prod Nat Bool)) True))))) else (some (True ∧ (R (Exit.exit (0 : Nat)) [(AV.lst (4 : Nat) (List.map clA cs) Tip.no), (AV.v (Value.bool b)), AV.dead, AV.dead, AV.dead, (AV.lst (4 : Nat) (List.map clA os) (Tip.tp (0 : Nat) v)), (AV.v (Value.int IntKind.i64 i)), AV.dead, AV.dead, AV.dead, AV.dead, AV.dead, AV.dead, AV.dead, AV.dead, AV.dead, AV.dead, AV.dead, AV.dead, AV.dead, AV.dead, AV.dead, AV.dead, AV.dead, AV.dead, AV.dead, AV.dead, AV.dead, AV.dead] (AH.mk (@List.nil (Prod Go.TypeId (List AV))) [v] (0 : Nat) (0 : Nat) true (@List.nil (Prod Nat Bool)) True))))) := by kernel_rfl
theorem sm_post (ro : Nat → Option (List Value)) (b : Bool) (cs os : List Cl) (v : Nat) (i : Int) (R : Exit → List AV → AH → Prop) : codeL ro (fun _ => false) (fun _ => none) 8 ((flatten (bodyOf 11)).drop 4) (smS b cs (.lst 4 (os.map clA) (.tp 0 v)) i) (hp [] [v]) (kp [4] R) =
    (some (True ∧ (R Exit.ret [AV.dead, AV.dead, AV.dead, AV.dead, (AV.lst (4 : Nat) (List.map clA os) (Tip.tp (0 : Nat) v)), AV.dead, AV.dead, AV.dead, AV.dead, AV.dead, AV.dead, AV.dead, AV.dead, AV.dead, AV.dead, AV.dead, AV.dead, AV.dead, AV.dead, AV.dead, AV.dead, AV.dead, AV.dead, AV.dead, AV.dead, AV.dead, AV.dead, AV.dead, AV.dead] (AH.mk (@List.nil (Prod Go.TypeId (List AV))) [v] (0 : Nat) (0 : Nat) true (@List.nil (Prod Nat Bool)) True)))) := by kernel_rfl
end Go.Proofs.YtkienkbaiejdmaaDoor.AE
namespace Go.Proofs.YtkienkbaiejdmaaDoor.AE
open Go.RowKit
def isSm (b : Bool) (c : Cl) : Bool := (c.tier == 0) == b
theorem sq1 {b : Bool} {c : Cl} (h : ((c.tier == 0) == b) = true) : [c].filter (isSm b) = [c] := by simp [isSm, h]
theorem sq2 {b : Bool} {c : Cl} (h : ((c.tier == 0) == b) = false) : [c].filter (isSm b) = [] := by simp [isSm, h]
theorem some_req : isSm true = isReq := by funext c; unfold isSm isReq; cases c.tier == 0 <;> rfl
theorem some_opt : isSm false = isOpt := by funext c; unfold isSm isOpt; show ((c.tier == 0) == false) = !(c.tier == 0); cases c.tier == 0 <;> rfl
theorem sm_sl : slotsOf 11 = 29 := by kernel_rfl
theorem sm_re : resultsOf 11 = [.tmp 4] := by kernel_rfl
theorem sm_fl : (flatten (bodyOf 11)).drop 3 = .block 0 (.loop (sub (bodyOf 11) [1, 1, 0, 1, 0, 0])) :: (flatten (bodyOf 11)).drop 4 := by kernel_rfl
set_option maxRecDepth 100000 in
theorem fs_some {ro : Nat → Option (List Value)} (b : Bool) (cs : List Cl) (hl : cs.length ≤ 1000000) : Fs Tryd.prog ro 11 [.lst 4 (cs.map clA) .no, .v (.bool b)] (hp [] []) fun r _ => clean r = some (.lst 4 ((cs.filter (isSm b)).map clA) .no) := by
  refine Fs.of_body (has_fn (by kernel_rfl)) ?_
  rw [sm_sl, sm_re]
  refine Tr.of_flat (Trl.split 3 (Trl.of_code (known_none _) (ne_nil (by kernel_rfl)) (sm_pre ro b cs _) ⟨trivial, ?_⟩))
  show Trl _ _ ((flatten (bodyOf 11)).drop 3) _ _ _
  rw [sm_fl]
  refine Tr.keepL [0, 1, 5, 6] rfl (Trl.nilTip 5 4 rfl rfl ?_)
  let M := (cs.map clA).length
  have hM : M = cs.length := List.length_map ..
  let I : Nat → List AV → AH → Prop := fun m act H => ∃ i v : Nat, i ≤ M ∧ m = M - i ∧ act = smS b cs (.lst 4 (((cs.take i).filter (isSm b)).map clA) (.tp 0 v)) i ∧ H = hp [] [v]
  refine Tr.block (Tr.loop I ?_ (m := M) ⟨0, 0, Nat.zero_le _, rfl, rfl, rfl⟩)
  rintro m act H ⟨i, v, hi, rfl, rfl, rfl⟩
  have hf : ((cs.take i).filter (isSm b)).length ≤ i := Nat.le_trans (List.length_filter_le _ _) (by rw [List.length_take]; omega)
  refine Tr.of_code (known_none _) (sm_in ro b cs ((cs.take i).filter (isSm b)) v i _) (holds_bif (fun h1 => ?_) fun h1 => ⟨trivial, ?_⟩)
  · have h1 : i < cs.length := by have := of_decide_eq_true h1; omega
    have e1 := cl_el h1
    rw [cl_get h1, inc64 i (by omega)]
    have tk : (cs.take (i + 1)).filter (isSm b) = (cs.take i).filter (isSm b) ++ [cs[i]].filter (isSm b) := by rw [take_snoc h1, List.filter_append]
    refine holds_bif (fun h2 => ⟨?_, M - (i + 1), by omega, i + 1, _, by omega, rfl, ?_, rfl⟩) fun h2 => ⟨?_, M - (i + 1), by omega, i + 1, _, by omega, rfl, ?_, rfl⟩
    all_goals first
      | (with_reducible refine cdb_iff.2 ⟨?_, ?_⟩
         · exact cds_of (cds_of trivial e1) e1
         · exact roomC _ _ _ (by omega))
      | exact cds_of trivial e1
      | (rw [tk, sq1 h2, List.map_append]; rfl)
      | (rw [tk, sq2 h2, List.append_nil]; rfl)
  · have h1 : i = M := by have := of_decide_eq_false h1; omega
    show Trl _ _ ((flatten (bodyOf 11)).drop 4) _ _ _
    rw [List.take_of_length_le (by omega)]
    exact Trl.of_code (known_none _) (ne_nil (by kernel_rfl)) (sm_post ro b cs (cs.filter (isSm b)) v i _) ⟨trivial, .inr rfl, trivial, rfl⟩
end Go.Proofs.YtkienkbaiejdmaaDoor.AE
namespace Go.Proofs.YtkienkbaiejdmaaDoor.AE
open Go.RowKit
def eqA (a b : List Cl) (m i : Int) : List AV := [.lst 4 (a.map clA) .no, .lst 4 (b.map clA) .no, .dead, .dead, .dead, .dead, .dead, .dead, .dead, .dead, .dead, .dead, gi m, gi i] ++ List.replicate 12 .dead
theorem eq_pre (ro : Nat → Option (List Value)) (a b : List Cl) (R : Exit → List AV → AH → Prop) : codeL ro (fun _ => false) (fun _ => none) 8 ((flatten (bodyOf 36)).take 4) ([.lst 4 (a.map clA) .no, .lst 4 (b.map clA) .no] ++ List.replicate 24 (.v undef)) (hp [] []) (kp [0, 1, 4, 12, 13] R) =
    (bif (((List.length (List.map clA a)) : Int) != ((List.length (List.map clA b)) : Int)) then (some (True ∧ (R Exit.ret [(AV.lst (4 : Nat) (List.map clA a) Tip.no), (AV.lst (4 : Nat) (List.map clA b) Tip.no), AV.dead, AV.dead, (AV.v (Value.bool false)), AV.dead, AV.dead, AV.dead, AV.dead, AV.dead, AV.dead, AV.dead, (AV.v (Value.tuple (Array.mk (@List.nil Go.Value)))), (AV.v (Value.tuple (Array.mk (@List.nil Go.Value)))), AV.dead, AV.dead, AV.dead, AV.dead, AV.dead, AV.dead, AV.dead, AV.dead, AV.dead, AV.dead, AV.dead, AV.dead] (AH.mk (@List.nil (Prod Go.TypeId (List AV))) (@List.nil Nat) (0 : Nat) (0 : Nat) true (@List.nil (Prod Nat Bool)) True)))) else (some (True ∧ (R Exit.normal [(AV.lst (4 : Nat) (List.map clA a) Tip.no), (AV.lst (4 : Nat) (List.map clA b) Tip.no), AV.dead, AV.dead, (AV.v (Value.bool false)), AV.dead, AV.dead, AV.dead, AV.dead, AV.dead, AV.dead, AV.dead, (AV.v (Value.int IntKind.i64 ((List.length (List.map clA a)) : Int))), (AV.v (Value.int IntKind.i64 (0 : Int))), AV.dead, AV.dead, AV.dead, AV.dead, AV.dead, AV.dead, AV.dead, AV.dead, AV.dead, AV.dead, AV.dead, AV.dead] (AH.mk (@List.nil (Prod Go.TypeId (List AV))) (@List.nil Nat) (0 : Nat) (0 : Nat) true (@List.nil (Prod Nat Bool)) True))))) := by kernel_rfl
theorem eq_in (ro : Nat → Option (List Value)) (a b : List Cl) (m i : Int) (R : Exit → List AV → AH → Prop) : code ro (fun _ => false) (fun _ => none) 8 (sub (bodyOf 36) [1, 1, 0, 1, 0, 0]) (eqA a b m i) (hp [] []) (kp [0, 1, 4, 12, 13] R) =
    (bif (decide (i < m)) then (bif (!(((exInt (List.getD (AV.cells (List.getD (List.map clA a) (Int.toNat i) AV.dead)) (0 : Nat) AV.dead)) == (exInt (List.getD (AV.cells (List.getD (List.map clA b) (Int.toNat i) AV.dead)) (0 : Nat) AV.dead))) && (((exInt (List.getD (AV.cells (List.getD (List.map clA a) (Int.toNat i) AV.dead)) (1 : Nat) AV.dead)) == (exInt (List.getD (AV.cells (List.getD (List.map clA b) (Int.toNat i) AV.dead)) (1 : Nat) AV.dead))) && (((exInt (List.getD (AV.cells (List.getD (List.map clA a) (Int.toNat i) AV.dead)) (2 : Nat) AV.dead)) == (exInt (List.getD (AV.cells (List.getD (List.map clA b) (Int.toNat i) AV.dead)) (2 : Nat) AV.dead))) && (((exInt (List.getD (AV.cells (List.getD (List.map clA a) (Int.toNat i) AV.dead)) (3 : Nat) AV.dead)) == (exInt (List.getD (AV.cells (List.getD (List.map clA b) (Int.toNat i) AV.dead)) (3 : Nat) AV.dead))) && true))))) then (some ((cds (cds True (elemB Tryd.prog (47 : Nat) (List.map clA a) i) (((0 : Int) ≤ i) ∧ (((List.map clA a)[(Int.toNat i)]?) = (some (AV.v (Value.agg #[(Value.int IntKind.i64 (exInt (List.getD (AV.cells (List.getD (List.map clA a) (Int.toNat i) AV.dead)) (0 : Nat) AV.dead))), (Value.int IntKind.i64 (exInt (List.getD (AV.cells (List.getD (List.map clA a) (Int.toNat i) AV.dead)) (1 : Nat) AV.dead))), (Value.int IntKind.i64 (exInt (List.getD (AV.cells (List.getD (List.map clA a) (Int.toNat i) AV.dead)) (2 : Nat) AV.dead))), (Value.int IntKind.i64 (exInt (List.getD (AV.cells (List.getD (List.map clA a) (Int.toNat i) AV.dead)) (3 : Nat) AV.dead)))])))))) (elemB Tryd.prog (47 : Nat) (List.map clA b) i) (((0 : Int) ≤ i) ∧ (((List.map clA b)[(Int.toNat i)]?) = (some (AV.v (Value.agg #[(Value.int IntKind.i64 (exInt (List.getD (AV.cells (List.getD (List.map clA b) (Int.toNat i) AV.dead)) (0 : Nat) AV.dead))), (Value.int IntKind.i64 (exInt (List.getD (AV.cells (List.getD (List.map clA b) (Int.toNat i) AV.dead)) (1 : Nat) AV.dead))), (Value.int IntKind.i64 (exInt (List.getD (AV.cells (List.getD (List.map clA b) (Int.toNat i) AV.dead)) (2 : Nat) AV.dead))), (Value.int IntKind.i64 (exInt (List.getD (AV.cells (List.getD (List.map clA b) (Int.toNat i) AV.dead)) (3 : Nat) AV.dead)))])))))) ∧ (R Exit.ret [(AV.lst (4 : Nat) (List.map clA a) Tip.no), (AV.lst (4 : Nat) (List.map clA b) Tip.no), AV.dead, AV.dead, (AV.v (Value.bool false)), AV.dead, AV.dead, AV.dead, AV.dead, AV.dead, AV.dead, AV.dead, (AV.v (Value.int IntKind.i64 m)), (AV.v (Value.int IntKind.i64 i)), AV.dead, AV.dead, AV.dead, AV.dead, AV.dead, AV.dead, AV.dead, AV.dead, AV.dead, AV.dead, AV.dead, AV.dead] (AH.mk (@List.nil (Prod Go.TypeId (List AV))) (@List.nil Nat) (0 : Nat) (0 : Nat) true (@List.nil (Prod Nat Bool)) True)))) else (some ((cds (cds True (elemB Tryd.prog (47 : Nat) (List.map clA a) i) (((0 : Int) ≤ i) ∧ (((List.map clA a)[(Int.toNat i)]?) = (some (AV.v (Value.agg #[(Value.int IntKind.i64 (exInt (List.getD (AV.cells (List.getD (List.map clA a) (Int.toNat i) AV.dead)) (0 : Nat) AV.dead))), (Value.int IntKind.i64 (exInt (List.getD (AV.cells (List.getD (List.map clA a) (Int.toNat i) AV.dead)) (1 : Nat) AV.dead))), (Value.int IntKind.i64 (exInt (List.getD (AV.cells (List.getD (List.map clA a) (Int.toNat i) AV.dead)) (2 : Nat) AV.dead))), (Value.int IntKind.i64 (exInt (List.getD (AV.cells (List.getD (List.map clA a) (Int.toNat i) AV.dead)) (3 : Nat) AV.dead)))])))))) (elemB Tryd.prog (47 : Nat) (List.map clA b) i) (((0 : Int) ≤ i) ∧ (((List.map clA b)[(Int.toNat i)]?) = (some (AV.v (Value.agg #[(Value.int IntKind.i64 (exInt (List.getD (AV.cells (List.getD (List.map clA b) (Int.toNat i) AV.dead)) (0 : Nat) AV.dead))), (Value.int IntKind.i64 (exInt (List.getD (AV.cells (List.getD (List.map clA b) (Int.toNat i) AV.dead)) (1 : Nat) AV.dead))), (Value.int IntKind.i64 (exInt (List.getD (AV.cells (List.getD (List.map clA b) (Int.toNat i) AV.dead)) (2 : Nat) AV.dead))), (Value.int IntKind.i64 (exInt (List.getD (AV.cells (List.getD (List.map clA b) (Int.toNat i) AV.dead)) (3 : Nat) AV.dead)))])))))) ∧ (R Exit.normal [(AV.lst (4 : Nat) (List.map clA a) Tip.no), (AV.lst (4 : Nat) (List.map clA b) Tip.no), AV.dead, AV.dead, AV.dead, AV.dead, AV.dead, AV.dead, AV.dead, AV.dead, AV.dead, AV.dead, (AV.v (Value.int IntKind.i64 m)), (AV.v (Value.int IntKind.i64 (IntKind.wrap IntKind.i64 (i + (1 : Int))))), AV.dead, AV.dead, AV.dead, AV.dead, AV.dead, AV.dead, AV.dead, AV.dead, AV.dead, AV.dead, AV.dead, AV.dead] (AH.mk (@List.nil (Prod Go.TypeId (List AV))) (@List.nil Nat) (0 : Nat) (0 : Nat) true (@List.nil (Prod Nat Bool)) True))))) else (some (True ∧ (R (Exit.exit (0 : Nat)) [(AV.lst (4 : Nat) (List.map clA a) Tip.no), (AV.lst (4 : Nat) (List.map clA b) Tip.no), AV.dead, AV.dead, AV.dead, AV.dead, AV.dead, AV.dead, AV.dead, AV.dead, AV.dead, AV.dead, (AV.v (Value.int IntKind.i64 m)), (AV.v (Value.int IntKind.i64 i)), AV.dead, AV.dead, AV.dead, AV.dead, AV.dead, AV.dead, AV.dead, AV.dead, AV.dead, AV.dead, AV.dead, AV.dead] (AH.mk (@List.nil (Prod Go.TypeId (List AV))) (@List.nil Nat) (0 : Nat) (0 : Nat) true (@List.nil (Prod Nat Bool)) True))))) := by kernel_rfl
theorem eq_post (ro : Nat → Option (List Value)) (a b : List Cl) (m i : Int) (R : Exit → List AV → AH → Prop) : codeL ro (fun _ => false) (fun _ => none) 8 ((flatten (bodyOf 36)).drop 5) (eqA a b m i) (hp [] []) (kp [4] R) =
    (some (True ∧ (R Exit.ret [AV.dead, AV.dead, AV.dead, AV.dead, (AV.v (Value.bool true)), AV.dead, AV.dead, AV.dead, AV.dead, AV.dead, AV.dead, AV.dead, AV.dead, AV.dead, AV.dead, AV.dead, AV.dead, AV.dead, AV.dead, AV.dead, AV.dead, AV.dead, AV.dead, AV.dead, AV.dead, AV.dead] (AH.mk (@List.nil (Prod Go.TypeId (List AV))) (@List.nil Nat) (0 : Nat) (0 : Nat) true (@List.nil (Prod Nat Bool)) True)))) := by kernel_rfl
end Go.Proofs.YtkienkbaiejdmaaDoor.AE
namespace Go.Proofs.YtkienkbaiejdmaaDoor.AE
open Go.RowKit
theorem eq_sl : slotsOf 36 = 26 := by kernel_rfl
theorem eq_re : resultsOf 36 = [.tmp 4] := by kernel_rfl
theorem eq_fl : (flatten (bodyOf 36)).drop 4 = .block 0 (.loop (sub (bodyOf 36) [1, 1, 0, 1, 0, 0])) :: (flatten (bodyOf 36)).drop 5 := by kernel_rfl
set_option maxRecDepth 100000 in
theorem fs_equalc {ro : Nat → Option (List Value)} (a b : List Cl) (ha : a.length ≤ 1000000) : Fs Tryd.prog ro 36 [.lst 4 (a.map clA) .no, .lst 4 (b.map clA) .no] (hp [] []) fun r _ => r = .v (.bool (decide (a = b))) := by
  refine Fs.of_body (has_fn (by kernel_rfl)) ?_
  rw [eq_sl, eq_re]
  have pre := fun R => eq_pre ro a b R
  rw [cll, cll] at pre
  refine Tr.of_flat (Trl.split 4 (Trl.of_code (known_none _) (ne_nil (by kernel_rfl)) (pre _) (holds_bif (fun h => ⟨trivial, .inr rfl, trivial, ?_⟩) fun h => ⟨trivial, ?_⟩)))
  · have h : ¬ a = b := by rintro rfl; simp at h
    rw [decide_eq_false h]; rfl
  have hlen : a.length = b.length := by simp at h; omega
  show Trl _ _ ((flatten (bodyOf 36)).drop 4) _ _ _
  rw [eq_fl]
  refine Tr.keepL [0, 1, 12, 13] rfl ?_
  let I : Nat → List AV → AH → Prop := fun m act H => ∃ i : Nat, i ≤ a.length ∧ m = a.length - i ∧ act = eqA a b (a.length : Nat) i ∧ H = hp [] [] ∧ a.take i = b.take i
  refine Tr.block (Tr.loop I ?_ (m := a.length) ⟨0, Nat.zero_le _, rfl, rfl, rfl, rfl⟩)
  rintro m act H ⟨i, hi, rfl, rfl, rfl, hp⟩
  have body := fun R => eq_in ro a b (a.length : Nat) i R
  rw [inc64 i (by omega)] at body
  refine Tr.of_code (known_none _) (body _) (holds_bif (fun h1 => ?_) fun h1 => ⟨trivial, ?_⟩)
  · have h1 : i < a.length := by have := of_decide_eq_true h1; omega
    have h2 : i < b.length := by omega
    have g1 := cl_el h1
    have g2 := cl_el h2
    rw [cl_get h1, cl_get h2]
    refine holds_bif (fun h3 => ⟨cds_of (cds_of trivial g1) g2, .inr rfl, trivial, ?_⟩) (fun h3 => ⟨cds_of (cds_of trivial g1) g2, a.length - (i + 1), by omega, i + 1, h1, rfl, rfl, rfl, ?_⟩)
    · have h3 : (a[i].to == b[i].to && (a[i].tier == b[i].tier && (a[i].weight == b[i].weight && (a[i].most == b[i].most && true)))) = false := bn_t h3
      have : ¬ a = b := by
        rintro rfl
        rw [cl_ext.2 rfl] at h3; cases h3
      rw [decide_eq_false this]; rfl
    · have h3 : (a[i].to == b[i].to && (a[i].tier == b[i].tier && (a[i].weight == b[i].weight && (a[i].most == b[i].most && true)))) = true := bn_f h3
      rw [take_snoc h1, take_snoc h2, hp, cl_ext.1 h3]
  · have h1 : i = a.length := by have := of_decide_eq_false h1; omega
    have hab : a = b := by
      rw [h1, List.take_length, hlen, List.take_length] at hp; exact hp
    show Trl _ _ ((flatten (bodyOf 36)).drop 5) _ _ _
    refine Trl.of_code (known_none _) (ne_nil (by kernel_rfl)) (eq_post ro _ _ _ _ _) ⟨trivial, .inr rfl, trivial, ?_⟩
    rw [decide_eq_true hab]; rfl
end Go.Proofs.YtkienkbaiejdmaaDoor.AE
namespace Go.Proofs.YtkienkbaiejdmaaDoor.AE
open Go.RowKit
def clC (c : Cl) : List AV := [gi c.to, gi c.tier, gi c.weight, gi c.most]
def ixF : AV := .fn (.func 56) [] [.ptr 0 0]
def ixA (cs : List Cl) (m i : Int) : List AV := [.lst 4 (cs.map clA) .no, ixF, .dead, .dead, .dead, .dead, .dead, gi m, gi i] ++ List.replicate 10 .dead
def ixH (c : Cl) : AH := hp [(47, clC c)] []
theorem ix_pre (ro : Nat → Option (List Value)) (cs : List Cl) (c : Cl) (R : Exit → List AV → AH → Prop) : codeL ro (fun _ => false) (fun _ => none) 8 ((flatten (bodyOf 64)).take 2) ([.lst 4 (cs.map clA) .no, ixF] ++ List.replicate 17 (.v undef)) (ixH c) (kp [0, 1, 7, 8] R) =
    (some (True ∧ (R Exit.normal [(AV.lst (4 : Nat) (List.map clA cs) Tip.no), (AV.fn (Go.Fn.func (56 : Nat)) (@List.nil AV) [(AV.ptr (0 : Nat) (0 : Nat))]), AV.dead, AV.dead, AV.dead, AV.dead, AV.dead, (AV.v (Value.int IntKind.i64 ((List.length (List.map clA cs)) : Int))), (AV.v (Value.int IntKind.i64 (0 : Int))), AV.dead, AV.dead, AV.dead, AV.dead, AV.dead, AV.dead, AV.dead, AV.dead, AV.dead, AV.dead] (AH.mk [((47 : Nat), [(AV.v (Value.int IntKind.i64 (c).1)), (AV.v (Value.int IntKind.i64 (c).2)), (AV.v (Value.int IntKind.i64 (c).3)), (AV.v (Value.int IntKind.i64 (c).4))])] (@List.nil Nat) (0 : Nat) (0 : Nat) true (@List.nil (Prod Nat Bool)) True)))) := by kernel_rfl
theorem ix_in (ro : Nat → Option (List Value)) (cs : List Cl) (c : Cl) (m i : Int) (R : Exit → List AV → AH → Prop) : code ro (fun _ => false) (fun _ => none) 8 (sub (bodyOf 64) [1, 0, 1, 0, 0]) (ixA cs m i) (ixH c) (kp [0, 1, 4, 7, 8] R) =
    (bif (decide (i < m)) then (bif ((exInt (List.getD (AV.cells (List.getD (List.map clA cs) (Int.toNat i) AV.dead)) (0 : Nat) AV.dead)) == (c).1) then (some ((cds True (elemB Tryd.prog (47 : Nat) (List.map clA cs) i) (((0 : Int) ≤ i) ∧ (((List.map clA cs)[(Int.toNat i)]?) = (some (AV.v (Value.agg #[(Value.int IntKind.i64 (exInt (List.getD (AV.cells (List.getD (List.map clA cs) (Int.toNat i) AV.dead)) (0 : Nat) AV.dead))), (Value.int IntKind.i64 (exInt (List.getD (AV.cells (List.getD (List.map clA cs) (Int.toNat i) AV.dead)) (1 : Nat) AV.dead))), (Value.int IntKind.i64 (exInt (List.getD (AV.cells (List.getD (List.map clA cs) (Int.toNat i) AV.dead)) (2 : Nat) AV.dead))), (Value.int IntKind.i64 (exInt (List.getD (AV.cells (List.getD (List.map clA cs) (Int.toNat i) AV.dead)) (3 : Nat) AV.dead)))])))))) ∧ (R Exit.ret [(AV.lst (4 : Nat) (List.map clA cs) Tip.no), (AV.fn (Go.Fn.func (56 : Nat)) (@List.nil AV) [(AV.ptr (0 : Nat) (0 : Nat))]), AV.dead, AV.dead, (AV.v (Value.int IntKind.i64 i)), AV.dead, AV.dead, (AV.v (Value.int IntKind.i64 m)), (AV.v (Value.int IntKind.i64 i)), AV.dead, AV.dead, AV.dead, AV.dead, AV.dead, AV.dead, AV.dead, AV.dead, AV.dead, AV.dead] (AH.mk [((47 : Nat), [(AV.v (Value.int IntKind.i64 (c).1)), (AV.v (Value.int IntKind.i64 (c).2)), (AV.v (Value.int IntKind.i64 (c).3)), (AV.v (Value.int IntKind.i64 (c).4))]), ((47 : Nat), [(AV.v (Value.int IntKind.i64 (exInt (List.getD (AV.cells (List.getD (List.map clA cs) (Int.toNat i) AV.dead)) (0 : Nat) AV.dead)))), (AV.v (Value.int IntKind.i64 (exInt (List.getD (AV.cells (List.getD (List.map clA cs) (Int.toNat i) AV.dead)) (1 : Nat) AV.dead)))), (AV.v (Value.int IntKind.i64 (exInt (List.getD (AV.cells (List.getD (List.map clA cs) (Int.toNat i) AV.dead)) (2 : Nat) AV.dead)))), (AV.v (Value.int IntKind.i64 (exInt (List.getD (AV.cells (List.getD (List.map clA cs) (Int.toNat i) AV.dead)) (3 : Nat) AV.dead))))])] (@List.nil Nat) (0 : Nat) (0 : Nat) true (@List.nil (Prod Nat Bool)) True)))) else (some ((cds True (elemB Tryd.prog (47 : Nat) (List.map clA cs) i) (((0 : Int) ≤ i) ∧ (((List.map clA cs)[(Int.toNat i)]?) = (some (AV.v (Value.agg #[(Value.int IntKind.i64 (exInt (List.getD (AV.cells (List.getD (List.map clA cs) (Int.toNat i) AV.dead)) (0 : Nat) AV.dead))), (Value.int IntKind.i64 (exInt (List.getD (AV.cells (List.getD (List.map clA cs) (Int.toNat i) AV.dead)) (1 : Nat) AV.dead))), (Value.int IntKind.i64 (exInt (List.getD (AV.cells (List.getD (List.map clA cs) (Int.toNat i) AV.dead)) (2 : Nat) AV.dead))), (Value.int IntKind.i64 (exInt (List.getD (AV.cells (List.getD (List.map clA cs) (Int.toNat i) AV.dead)) (3 : Nat) AV.dead)))])))))) ∧ (R Exit.normal [(AV.lst (4 : Nat) (List.map clA cs) Tip.no), (AV.fn (Go.Fn.func (56 : Nat)) (@List.nil AV) [(AV.ptr (0 : Nat) (0 : Nat))]), AV.dead, AV.dead, AV.dead, AV.dead, AV.dead, (AV.v (Value.int IntKind.i64 m)), (AV.v (Value.int IntKind.i64 (IntKind.wrap IntKind.i64 (i + (1 : Int))))), AV.dead, AV.dead, AV.dead, AV.dead, AV.dead, AV.dead, AV.dead, AV.dead, AV.dead, AV.dead] (AH.mk [((47 : Nat), [(AV.v (Value.int IntKind.i64 (c).1)), (AV.v (Value.int IntKind.i64 (c).2)), (AV.v (Value.int IntKind.i64 (c).3)), (AV.v (Value.int IntKind.i64 (c).4))]), ((47 : Nat), [(AV.v (Value.int IntKind.i64 (exInt (List.getD (AV.cells (List.getD (List.map clA cs) (Int.toNat i) AV.dead)) (0 : Nat) AV.dead)))), (AV.v (Value.int IntKind.i64 (exInt (List.getD (AV.cells (List.getD (List.map clA cs) (Int.toNat i) AV.dead)) (1 : Nat) AV.dead)))), (AV.v (Value.int IntKind.i64 (exInt (List.getD (AV.cells (List.getD (List.map clA cs) (Int.toNat i) AV.dead)) (2 : Nat) AV.dead)))), (AV.v (Value.int IntKind.i64 (exInt (List.getD (AV.cells (List.getD (List.map clA cs) (Int.toNat i) AV.dead)) (3 : Nat) AV.dead))))])] (@List.nil Nat) (0 : Nat) (0 : Nat) true (@List.nil (Prod Nat Bool)) True))))) else (some (True ∧ (R (Exit.exit (0 : Nat)) [(AV.lst (4 : Nat) (List.map clA cs) Tip.no), (AV.fn (Go.Fn.func (56 : Nat)) (@List.nil AV) [(AV.ptr (0 : Nat) (0 : Nat))]), AV.dead, AV.dead, AV.dead, AV.dead, AV.dead, (AV.v (Value.int IntKind.i64 m)), (AV.v (Value.int IntKind.i64 i)), AV.dead, AV.dead, AV.dead, AV.dead, AV.dead, AV.dead, AV.dead, AV.dead, AV.dead, AV.dead] (AH.mk [((47 : Nat), [(AV.v (Value.int IntKind.i64 (c).1)), (AV.v (Value.int IntKind.i64 (c).2)), (AV.v (Value.int IntKind.i64 (c).3)), (AV.v (Value.int IntKind.i64 (c).4))])] (@List.nil Nat) (0 : Nat) (0 : Nat) true (@List.nil (Prod Nat Bool)) True))))) := by kernel_rfl
theorem ix_post (ro : Nat → Option (List Value)) (cs : List Cl) (c : Cl) (m i : Int) (R : Exit → List AV → AH → Prop) : codeL ro (fun _ => false) (fun _ => none) 8 ((flatten (bodyOf 64)).drop 3) (ixA cs m i) (ixH c) (kp [4] R) =
    (some (True ∧ (R Exit.ret [AV.dead, AV.dead, AV.dead, AV.dead, (AV.v (Value.int IntKind.i64 (-(1 : Int)))), AV.dead, AV.dead, AV.dead, AV.dead, AV.dead, AV.dead, AV.dead, AV.dead, AV.dead, AV.dead, AV.dead, AV.dead, AV.dead, AV.dead] (AH.mk [((47 : Nat), [(AV.v (Value.int IntKind.i64 (c).1)), (AV.v (Value.int IntKind.i64 (c).2)), (AV.v (Value.int IntKind.i64 (c).3)), (AV.v (Value.int IntKind.i64 (c).4))])] (@List.nil Nat) (0 : Nat) (0 : Nat) true (@List.nil (Prod Nat Bool)) True)))) := by kernel_rfl
end Go.Proofs.YtkienkbaiejdmaaDoor.AE
namespace Go.Proofs.YtkienkbaiejdmaaDoor.AE
open Go.RowKit
/-- The place of the first call to t, or -1. -/
def ixX (t : Int) : Nat → List Cl → Int
  | _, [] => -1
  | i, x :: l => if x.to = t then (i : Int) else ixX t (i + 1) l
theorem ixX_any (t : Int) : ∀ (l : List Cl) (i : Nat), decide (0 ≤ ixX t i l) = l.any (fun x => x.to == t)
  | [], _ => rfl
  | x :: l, i => by
    unfold ixX
    rw [List.any_cons]
    by_cases h : x.to = t
    · rw [if_pos h, h, beq_self_eq_true, Bool.true_or]; exact decide_eq_true (Int.natCast_nonneg _)
    · rw [if_neg h, beq_false_of_ne h, Bool.false_or, ixX_any t l (i + 1)]
theorem ix_sl : slotsOf 64 = 19 := by kernel_rfl
theorem ix_re : resultsOf 64 = [.tmp 4] := by kernel_rfl
theorem ix_fl : (flatten (bodyOf 64)).drop 2 = .block 0 (.loop (sub (bodyOf 64) [1, 0, 1, 0, 0])) :: (flatten (bodyOf 64)).drop 3 := by kernel_rfl
set_option maxRecDepth 100000 in
theorem fs_index {ro : Nat → Option (List Value)} (cs : List Cl) (c : Cl) (hl : cs.length ≤ 1000000) : Fs Tryd.prog ro 64 [.lst 4 (cs.map clA) .no, ixF] (ixH c) fun r H' => r = gi (ixX c.to 0 cs) ∧ ∃ more, H' = hp ((47, clC c) :: more) [] := by
  refine Fs.of_body (has_fn (by kernel_rfl)) ?_
  rw [ix_sl, ix_re]
  have pre := fun R => ix_pre ro cs c R
  rw [cll] at pre
  refine Tr.of_flat (Trl.split 2 (Trl.of_code (known_none _) (ne_nil (by kernel_rfl)) (pre _) ⟨trivial, ?_⟩))
  show Trl _ _ ((flatten (bodyOf 64)).drop 2) _ _ _
  rw [ix_fl]
  refine Tr.keepL [0, 1, 7, 8] rfl ?_
  let I : Nat → List AV → AH → Prop := fun m act H => ∃ i : Nat, i ≤ cs.length ∧ m = cs.length - i ∧ act = ixA cs (cs.length : Nat) i ∧ H = ixH c ∧ ixX c.to 0 cs = ixX c.to i (cs.drop i)
  refine Tr.block (Tr.loop I ?_ (m := cs.length) ⟨0, Nat.zero_le _, rfl, rfl, rfl, rfl⟩)
  rintro m act H ⟨i, hi, rfl, rfl, rfl, hI⟩
  have body := fun R => ix_in ro cs c (cs.length : Nat) i R
  rw [inc64 i (by omega)] at body
  refine Tr.forget 1 0 (Nat.le_refl _) (Nat.le_refl _) (Tr.of_code (known_none _) (body _) (holds_bif (fun h1 => ?_) fun h1 => ⟨trivial, by kernel_rfl, by kernel_rfl, ?_⟩))
  · have h1 : i < cs.length := by have := of_decide_eq_true h1; omega
    have e1 := cl_el h1
    rw [cl_get h1]
    rw [List.drop_eq_getElem_cons h1, ixX] at hI
    refine holds_bif (fun h2 => ⟨cds_of trivial e1, by kernel_rfl, by kernel_rfl, .inr rfl, trivial, ?_, [], rfl⟩) fun h2 => ⟨cds_of trivial e1, by kernel_rfl, by kernel_rfl, cs.length - (i + 1), by omega, i + 1, h1, rfl, rfl, rfl, ?_⟩
    · have h2 : cs[i].to = c.to := eq_of_beq h2
      rw [if_pos h2] at hI
      rw [hI]; rfl
    · have h2 : ¬ cs[i].to = c.to := by
        intro e
        have h2 : (cs[i].to == c.to) = false := h2
        rw [e, beq_self_eq_true] at h2; cases h2
      rw [if_neg h2] at hI
      exact hI
  · have h1 : i = cs.length := by have := of_decide_eq_false h1; omega
    subst h1
    rw [List.drop_length] at hI
    show Trl _ _ ((flatten (bodyOf 64)).drop 3) _ _ _
    refine Trl.of_code (known_none _) (ne_nil (by kernel_rfl)) (ix_post ro cs c _ _ _) ⟨trivial, .inr rfl, trivial, ?_, [], rfl⟩
    rw [hI]; rfl
end Go.Proofs.YtkienkbaiejdmaaDoor.AE
namespace Go.Proofs.YtkienkbaiejdmaaDoor.AE
open Go.RowKit
def svcQ (x1 x2 x3 x4 x5 x6 x7 x8 x9 x10 x11 x12 x13 : Int) (cs : List Cl) : List AV := [gi x1, gi x2, gi x3, gi x4, gi x5, gi x6, gi x7, gi x8, gi x9, gi x10, gi x11, gi x12, gi x13, .lst 4 (cs.map clA) .no]
def cqA (self services i : Int) (p k : AV) : List AV := [.dead, gi self, gi services, .ptr 0 0, .dead, .dead, .dead, gi i, p, k] ++ List.replicate 62 .dead
noncomputable def cqL : Code := sub (bodyOf 32) [1, 0, 1, 0, 0]
noncomputable def cqB : Code := sub (bodyOf 32) [1, 0, 1, 0, 0, 1, 0, 0]
noncomputable def cqY : Code := sub (bodyOf 32) [1, 0, 1, 0, 0, 1, 0, 0, 1, 1, 1, 0, 0]
theorem cq_pre (ro : Nat → Option (List Value)) (x1 x2 x3 x4 x5 x6 x7 x8 x9 x10 x11 x12 x13 : Int) (cs : List Cl) (self services : Int) (R : Exit → List AV → AH → Prop) : codeL ro (fun _ => false) (fun _ => none) 8 ((flatten (bodyOf 32)).take 2) ([svcA x1 x2 x3 x4 x5 x6 x7 x8 x9 x10 x11 x12 x13 cs, gi self, gi services] ++ List.replicate 69 (.v undef)) (hp [] []) (kp [1, 2, 3, 7] R) =
    (some (True ∧ (R Exit.normal [AV.dead, (AV.v (Value.int IntKind.i64 self)), (AV.v (Value.int IntKind.i64 services)), (AV.ptr (0 : Nat) (0 : Nat)), AV.dead, AV.dead, AV.dead, (AV.v (Value.int IntKind.i64 (0 : Int))), AV.dead, AV.dead, AV.dead, AV.dead, AV.dead, AV.dead, AV.dead, AV.dead, AV.dead, AV.dead, AV.dead, AV.dead, AV.dead, AV.dead, AV.dead, AV.dead, AV.dead, AV.dead, AV.dead, AV.dead, AV.dead, AV.dead, AV.dead, AV.dead, AV.dead, AV.dead, AV.dead, AV.dead, AV.dead, AV.dead, AV.dead, AV.dead, AV.dead, AV.dead, AV.dead, AV.dead, AV.dead, AV.dead, AV.dead, AV.dead, AV.dead, AV.dead, AV.dead, AV.dead, AV.dead, AV.dead, AV.dead, AV.dead, AV.dead, AV.dead, AV.dead, AV.dead, AV.dead, AV.dead, AV.dead, AV.dead, AV.dead, AV.dead, AV.dead, AV.dead, AV.dead, AV.dead, AV.dead, AV.dead] (AH.mk [((26 : Nat), [(AV.v (Value.int IntKind.i64 x1)), (AV.v (Value.int IntKind.i64 x2)), (AV.v (Value.int IntKind.i64 x3)), (AV.v (Value.int IntKind.i64 x4)), (AV.v (Value.int IntKind.i64 x5)), (AV.v (Value.int IntKind.i64 x6)), (AV.v (Value.int IntKind.i64 x7)), (AV.v (Value.int IntKind.i64 x8)), (AV.v (Value.int IntKind.i64 x9)), (AV.v (Value.int IntKind.i64 x10)), (AV.v (Value.int IntKind.i64 x11)), (AV.v (Value.int IntKind.i64 x12)), (AV.v (Value.int IntKind.i64 x13)), (AV.lst (4 : Nat) (List.map clA cs) Tip.no)])] (@List.nil Nat) (0 : Nat) (0 : Nat) true (@List.nil (Prod Nat Bool)) True)))) := by kernel_rfl
theorem cq_head (ro : Nat → Option (List Value)) (x1 x2 x3 x4 x5 x6 x7 x8 x9 x10 x11 x12 x13 : Int) (cs : List Cl) (self services i : Int) (R : Exit → List AV → AH → Prop) : codeL ro (fun _ => false) (fun _ => none) 8 ((flatten cqL).take 2) (cqA self services i .dead .dead) (hp [(26, svcQ x1 x2 x3 x4 x5 x6 x7 x8 x9 x10 x11 x12 x13 cs)] []) (kp [1, 2, 3, 7] R) =
    (bif (decide (i < ((List.length (List.map clA cs)) : Int))) then (some (True ∧ (R Exit.normal [AV.dead, (AV.v (Value.int IntKind.i64 self)), (AV.v (Value.int IntKind.i64 services)), (AV.ptr (0 : Nat) (0 : Nat)), AV.dead, AV.dead, AV.dead, (AV.v (Value.int IntKind.i64 i)), AV.dead, AV.dead, AV.dead, AV.dead, AV.dead, AV.dead, AV.dead, AV.dead, AV.dead, AV.dead, AV.dead, AV.dead, AV.dead, AV.dead, AV.dead, AV.dead, AV.dead, AV.dead, AV.dead, AV.dead, AV.dead, AV.dead, AV.dead, AV.dead, AV.dead, AV.dead, AV.dead, AV.dead, AV.dead, AV.dead, AV.dead, AV.dead, AV.dead, AV.dead, AV.dead, AV.dead, AV.dead, AV.dead, AV.dead, AV.dead, AV.dead, AV.dead, AV.dead, AV.dead, AV.dead, AV.dead, AV.dead, AV.dead, AV.dead, AV.dead, AV.dead, AV.dead, AV.dead, AV.dead, AV.dead, AV.dead, AV.dead, AV.dead, AV.dead, AV.dead, AV.dead, AV.dead, AV.dead, AV.dead] (AH.mk [((26 : Nat), [(AV.v (Value.int IntKind.i64 x1)), (AV.v (Value.int IntKind.i64 x2)), (AV.v (Value.int IntKind.i64 x3)), (AV.v (Value.int IntKind.i64 x4)), (AV.v (Value.int IntKind.i64 x5)), (AV.v (Value.int IntKind.i64 x6)), (AV.v (Value.int IntKind.i64 x7)), (AV.v (Value.int IntKind.i64 x8)), (AV.v (Value.int IntKind.i64 x9)), (AV.v (Value.int IntKind.i64 x10)), (AV.v (Value.int IntKind.i64 x11)), (AV.v (Value.int IntKind.i64 x12)), (AV.v (Value.int IntKind.i64 x13)), (AV.lst (4 : Nat) (List.map clA cs) Tip.no)])] (@List.nil Nat) (0 : Nat) (0 : Nat) true (@List.nil (Prod Nat Bool)) True)))) else (some (True ∧ (R (Exit.exit (0 : Nat)) [AV.dead, (AV.v (Value.int IntKind.i64 self)), (AV.v (Value.int IntKind.i64 services)), (AV.ptr (0 : Nat) (0 : Nat)), AV.dead, AV.dead, AV.dead, (AV.v (Value.int IntKind.i64 i)), AV.dead, AV.dead, AV.dead, AV.dead, AV.dead, AV.dead, AV.dead, AV.dead, AV.dead, AV.dead, AV.dead, AV.dead, AV.dead, AV.dead, AV.dead, AV.dead, AV.dead, AV.dead, AV.dead, AV.dead, AV.dead, AV.dead, AV.dead, AV.dead, AV.dead, AV.dead, AV.dead, AV.dead, AV.dead, AV.dead, AV.dead, AV.dead, AV.dead, AV.dead, AV.dead, AV.dead, AV.dead, AV.dead, AV.dead, AV.dead, AV.dead, AV.dead, AV.dead, AV.dead, AV.dead, AV.dead, AV.dead, AV.dead, AV.dead, AV.dead, AV.dead, AV.dead, AV.dead, AV.dead, AV.dead, AV.dead, AV.dead, AV.dead, AV.dead, AV.dead, AV.dead, AV.dead, AV.dead, AV.dead] (AH.mk [((26 : Nat), [(AV.v (Value.int IntKind.i64 x1)), (AV.v (Value.int IntKind.i64 x2)), (AV.v (Value.int IntKind.i64 x3)), (AV.v (Value.int IntKind.i64 x4)), (AV.v (Value.int IntKind.i64 x5)), (AV.v (Value.int IntKind.i64 x6)), (AV.v (Value.int IntKind.i64 x7)), (AV.v (Value.int IntKind.i64 x8)), (AV.v (Value.int IntKind.i64 x9)), (AV.v (Value.int IntKind.i64 x10)), (AV.v (Value.int IntKind.i64 x11)), (AV.v (Value.int IntKind.i64 x12)), (AV.v (Value.int IntKind.i64 x13)), (AV.lst (4 : Nat) (List.map clA cs) Tip.no)])] (@List.nil Nat) (0 : Nat) (0 : Nat) true (@List.nil (Prod Nat Bool)) True))))) := by kernel_rfl
theorem cq_b1 (ro : Nat → Option (List Value)) (x1 x2 x3 x4 x5 x6 x7 x8 x9 x10 x11 x12 x13 : Int) (cs : List Cl) (self services i : Int) (R : Exit → List AV → AH → Prop) : codeL ro (fun _ => false) (fun _ => none) 8 ((flatten cqB).take 4) (cqA self services i .dead .dead) (hp [(26, svcQ x1 x2 x3 x4 x5 x6 x7 x8 x9 x10 x11 x12 x13 cs)] []) (kp [1, 2, 3, 6, 7, 8, 9] R) =
    (bif (decide ((0 : Int) ≤ (exInt (List.getD (AV.cells (List.getD (List.map clA cs) (Int.toNat i) AV.dead)) (0 : Nat) AV.dead)))) then (bif (!(decide ((exInt (List.getD (AV.cells (List.getD (List.map clA cs) (Int.toNat i) AV.dead)) (0 : Nat) AV.dead)) ≤ (IntKind.wrap IntKind.i64 (services - (1 : Int)))))) then (some ((cds True (elemB Tryd.prog (47 : Nat) (List.map clA cs) i) (((0 : Int) ≤ i) ∧ (((List.map clA cs)[(Int.toNat i)]?) = (some (AV.v (Value.agg #[(Value.int IntKind.i64 (exInt (List.getD (AV.cells (List.getD (List.map clA cs) (Int.toNat i) AV.dead)) (0 : Nat) AV.dead))), (Value.int IntKind.i64 (exInt (List.getD (AV.cells (List.getD (List.map clA cs) (Int.toNat i) AV.dead)) (1 : Nat) AV.dead))), (Value.int IntKind.i64 (exInt (List.getD (AV.cells (List.getD (List.map clA cs) (Int.toNat i) AV.dead)) (2 : Nat) AV.dead))), (Value.int IntKind.i64 (exInt (List.getD (AV.cells (List.getD (List.map clA cs) (Int.toNat i) AV.dead)) (3 : Nat) AV.dead)))])))))) ∧ (R Exit.ret [AV.dead, (AV.v (Value.int IntKind.i64 self)), (AV.v (Value.int IntKind.i64 services)), (AV.ptr (0 : Nat) (0 : Nat)), AV.dead, AV.dead, (AV.v (Value.bool false)), (AV.v (Value.int IntKind.i64 i)), (AV.ptr (List.length [((26 : Nat), [(AV.v (Value.int IntKind.i64 x1)), (AV.v (Value.int IntKind.i64 x2)), (AV.v (Value.int IntKind.i64 x3)), (AV.v (Value.int IntKind.i64 x4)), (AV.v (Value.int IntKind.i64 x5)), (AV.v (Value.int IntKind.i64 x6)), (AV.v (Value.int IntKind.i64 x7)), (AV.v (Value.int IntKind.i64 x8)), (AV.v (Value.int IntKind.i64 x9)), (AV.v (Value.int IntKind.i64 x10)), (AV.v (Value.int IntKind.i64 x11)), (AV.v (Value.int IntKind.i64 x12)), (AV.v (Value.int IntKind.i64 x13)), (AV.lst (4 : Nat) (List.map clA cs) Tip.no)])]) (0 : Nat)), AV.dead, AV.dead, AV.dead, AV.dead, AV.dead, AV.dead, AV.dead, AV.dead, AV.dead, AV.dead, AV.dead, AV.dead, AV.dead, AV.dead, AV.dead, AV.dead, AV.dead, AV.dead, AV.dead, AV.dead, AV.dead, AV.dead, AV.dead, AV.dead, AV.dead, AV.dead, AV.dead, AV.dead, AV.dead, AV.dead, AV.dead, AV.dead, AV.dead, AV.dead, AV.dead, AV.dead, AV.dead, AV.dead, AV.dead, AV.dead, AV.dead, AV.dead, AV.dead, AV.dead, AV.dead, AV.dead, AV.dead, AV.dead, AV.dead, AV.dead, AV.dead, AV.dead, AV.dead, AV.dead, AV.dead, AV.dead, AV.dead, AV.dead, AV.dead, AV.dead, AV.dead, AV.dead, AV.dead] (AH.mk [((26 : Nat), [(AV.v (Value.int IntKind.i64 x1)), (AV.v (Value.int IntKind.i64 x2)), (AV.v (Value.int IntKind.i64 x3)), (AV.v (Value.int IntKind.i64 x4)), (AV.v (Value.int IntKind.i64 x5)), (AV.v (Value.int IntKind.i64 x6)), (AV.v (Value.int IntKind.i64 x7)), (AV.v (Value.int IntKind.i64 x8)), (AV.v (Value.int IntKind.i64 x9)), (AV.v (Value.int IntKind.i64 x10)), (AV.v (Value.int IntKind.i64 x11)), (AV.v (Value.int IntKind.i64 x12)), (AV.v (Value.int IntKind.i64 x13)), (AV.lst (4 : Nat) (List.map clA cs) Tip.no)]), ((47 : Nat), [(AV.v (Value.int IntKind.i64 (exInt (List.getD (AV.cells (List.getD (List.map clA cs) (Int.toNat i) AV.dead)) (0 : Nat) AV.dead)))), (AV.v (Value.int IntKind.i64 (exInt (List.getD (AV.cells (List.getD (List.map clA cs) (Int.toNat i) AV.dead)) (1 : Nat) AV.dead)))), (AV.v (Value.int IntKind.i64 (exInt (List.getD (AV.cells (List.getD (List.map clA cs) (Int.toNat i) AV.dead)) (2 : Nat) AV.dead)))), (AV.v (Value.int IntKind.i64 (exInt (List.getD (AV.cells (List.getD (List.map clA cs) (Int.toNat i) AV.dead)) (3 : Nat) AV.dead))))])] (@List.nil Nat) (0 : Nat) (0 : Nat) true (@List.nil (Prod Nat Bool)) True)))) else (bif ((exInt (List.getD (AV.cells (List.getD (List.map clA cs) (Int.toNat i) AV.dead)) (0 : Nat) AV.dead)) == self) then (some ((cds True (elemB Tryd.prog (47 : Nat) (List.map clA cs) i) (((0 : Int) ≤ i) ∧ (((List.map clA cs)[(Int.toNat i)]?) = (some (AV.v (Value.agg #[(Value.int IntKind.i64 (exInt (List.getD (AV.cells (List.getD (List.map clA cs) (Int.toNat i) AV.dead)) (0 : Nat) AV.dead))), (Value.int IntKind.i64 (exInt (List.getD (AV.cells (List.getD (List.map clA cs) (Int.toNat i) AV.dead)) (1 : Nat) AV.dead))), (Value.int IntKind.i64 (exInt (List.getD (AV.cells (List.getD (List.map clA cs) (Int.toNat i) AV.dead)) (2 : Nat) AV.dead))), (Value.int IntKind.i64 (exInt (List.getD (AV.cells (List.getD (List.map clA cs) (Int.toNat i) AV.dead)) (3 : Nat) AV.dead)))])))))) ∧ (R Exit.ret [AV.dead, (AV.v (Value.int IntKind.i64 self)), (AV.v (Value.int IntKind.i64 services)), (AV.ptr (0 : Nat) (0 : Nat)), AV.dead, AV.dead, (AV.v (Value.bool false)), (AV.v (Value.int IntKind.i64 i)), (AV.ptr (List.length [((26 : Nat), [(AV.v (Value.int IntKind.i64 x1)), (AV.v (Value.int IntKind.i64 x2)), (AV.v (Value.int IntKind.i64 x3)), (AV.v (Value.int IntKind.i64 x4)), (AV.v (Value.int IntKind.i64 x5)), (AV.v (Value.int IntKind.i64 x6)), (AV.v (Value.int IntKind.i64 x7)), (AV.v (Value.int IntKind.i64 x8)), (AV.v (Value.int IntKind.i64 x9)), (AV.v (Value.int IntKind.i64 x10)), (AV.v (Value.int IntKind.i64 x11)), (AV.v (Value.int IntKind.i64 x12)), (AV.v (Value.int IntKind.i64 x13)), (AV.lst (4 : Nat) (List.map clA cs) Tip.no)])]) (0 : Nat)), AV.dead, AV.dead, AV.dead, AV.dead, AV.dead, AV.dead, AV.dead, AV.dead, AV.dead, AV.dead, AV.dead, AV.dead, AV.dead, AV.dead, AV.dead, AV.dead, AV.dead, AV.dead, AV.dead, AV.dead, AV.dead, AV.dead, AV.dead, AV.dead, AV.dead, AV.dead, AV.dead, AV.dead, AV.dead, AV.dead, AV.dead, AV.dead, AV.dead, AV.dead, AV.dead, AV.dead, AV.dead, AV.dead, AV.dead, AV.dead, AV.dead, AV.dead, AV.dead, AV.dead, AV.dead, AV.dead, AV.dead, AV.dead, AV.dead, AV.dead, AV.dead, AV.dead, AV.dead, AV.dead, AV.dead, AV.dead, AV.dead, AV.dead, AV.dead, AV.dead, AV.dead, AV.dead, AV.dead] (AH.mk [((26 : Nat), [(AV.v (Value.int IntKind.i64 x1)), (AV.v (Value.int IntKind.i64 x2)), (AV.v (Value.int IntKind.i64 x3)), (AV.v (Value.int IntKind.i64 x4)), (AV.v (Value.int IntKind.i64 x5)), (AV.v (Value.int IntKind.i64 x6)), (AV.v (Value.int IntKind.i64 x7)), (AV.v (Value.int IntKind.i64 x8)), (AV.v (Value.int IntKind.i64 x9)), (AV.v (Value.int IntKind.i64 x10)), (AV.v (Value.int IntKind.i64 x11)), (AV.v (Value.int IntKind.i64 x12)), (AV.v (Value.int IntKind.i64 x13)), (AV.lst (4 : Nat) (List.map clA cs) Tip.no)]), ((47 : Nat), [(AV.v (Value.int IntKind.i64 (exInt (List.getD (AV.cells (List.getD (List.map clA cs) (Int.toNat i) AV.dead)) (0 : Nat) AV.dead)))), (AV.v (Value.int IntKind.i64 (exInt (List.getD (AV.cells (List.getD (List.map clA cs) (Int.toNat i) AV.dead)) (1 : Nat) AV.dead)))), (AV.v (Value.int IntKind.i64 (exInt (List.getD (AV.cells (List.getD (List.map clA cs) (Int.toNat i) AV.dead)) (2 : Nat) AV.dead)))), (AV.v (Value.int IntKind.i64 (exInt (List.getD (AV.cells (List.getD (List.map clA cs) (Int.toNat i) AV.dead)) (3 : Nat) AV.dead))))])] (@List.nil Nat) (0 : Nat) (0 : Nat) true (@List.nil (Prod Nat Bool)) True)))) else (bif (decide ((0 : Int) ≤ (exInt (List.getD (AV.cells (List.getD (List.map clA cs) (Int.toNat i) AV.dead)) (1 : Nat) AV.dead)))) then (bif (!(decide ((exInt (List.getD (AV.cells (List.getD (List.map clA cs) (Int.toNat i) AV.dead)) (1 : Nat) AV.dead)) ≤ x4))) then (some ((cds True (elemB Tryd.prog (47 : Nat) (List.map clA cs) i) (((0 : Int) ≤ i) ∧ (((List.map clA cs)[(Int.toNat i)]?) = (some (AV.v (Value.agg #[(Value.int IntKind.i64 (exInt (List.getD (AV.cells (List.getD (List.map clA cs) (Int.toNat i) AV.dead)) (0 : Nat) AV.dead))), (Value.int IntKind.i64 (exInt (List.getD (AV.cells (List.getD (List.map clA cs) (Int.toNat i) AV.dead)) (1 : Nat) AV.dead))), (Value.int IntKind.i64 (exInt (List.getD (AV.cells (List.getD (List.map clA cs) (Int.toNat i) AV.dead)) (2 : Nat) AV.dead))), (Value.int IntKind.i64 (exInt (List.getD (AV.cells (List.getD (List.map clA cs) (Int.toNat i) AV.dead)) (3 : Nat) AV.dead)))])))))) ∧ (R Exit.ret [AV.dead, (AV.v (Value.int IntKind.i64 self)), (AV.v (Value.int IntKind.i64 services)), (AV.ptr (0 : Nat) (0 : Nat)), AV.dead, AV.dead, (AV.v (Value.bool false)), (AV.v (Value.int IntKind.i64 i)), (AV.ptr (List.length [((26 : Nat), [(AV.v (Value.int IntKind.i64 x1)), (AV.v (Value.int IntKind.i64 x2)), (AV.v (Value.int IntKind.i64 x3)), (AV.v (Value.int IntKind.i64 x4)), (AV.v (Value.int IntKind.i64 x5)), (AV.v (Value.int IntKind.i64 x6)), (AV.v (Value.int IntKind.i64 x7)), (AV.v (Value.int IntKind.i64 x8)), (AV.v (Value.int IntKind.i64 x9)), (AV.v (Value.int IntKind.i64 x10)), (AV.v (Value.int IntKind.i64 x11)), (AV.v (Value.int IntKind.i64 x12)), (AV.v (Value.int IntKind.i64 x13)), (AV.lst (4 : Nat) (List.map clA cs) Tip.no)])]) (0 : Nat)), AV.dead, AV.dead, AV.dead, AV.dead, AV.dead, AV.dead, AV.dead, AV.dead, AV.dead, AV.dead, AV.dead, AV.dead, AV.dead, AV.dead, AV.dead, AV.dead, AV.dead, AV.dead, AV.dead, AV.dead, AV.dead, AV.dead, AV.dead, AV.dead, AV.dead, AV.dead, AV.dead, AV.dead, AV.dead, AV.dead, AV.dead, AV.dead, AV.dead, AV.dead, AV.dead, AV.dead, AV.dead, AV.dead, AV.dead, AV.dead, AV.dead, AV.dead, AV.dead, AV.dead, AV.dead, AV.dead, AV.dead, AV.dead, AV.dead, AV.dead, AV.dead, AV.dead, AV.dead, AV.dead, AV.dead, AV.dead, AV.dead, AV.dead, AV.dead, AV.dead, AV.dead, AV.dead, AV.dead] (AH.mk [((26 : Nat), [(AV.v (Value.int IntKind.i64 x1)), (AV.v (Value.int IntKind.i64 x2)), (AV.v (Value.int IntKind.i64 x3)), (AV.v (Value.int IntKind.i64 x4)), (AV.v (Value.int IntKind.i64 x5)), (AV.v (Value.int IntKind.i64 x6)), (AV.v (Value.int IntKind.i64 x7)), (AV.v (Value.int IntKind.i64 x8)), (AV.v (Value.int IntKind.i64 x9)), (AV.v (Value.int IntKind.i64 x10)), (AV.v (Value.int IntKind.i64 x11)), (AV.v (Value.int IntKind.i64 x12)), (AV.v (Value.int IntKind.i64 x13)), (AV.lst (4 : Nat) (List.map clA cs) Tip.no)]), ((47 : Nat), [(AV.v (Value.int IntKind.i64 (exInt (List.getD (AV.cells (List.getD (List.map clA cs) (Int.toNat i) AV.dead)) (0 : Nat) AV.dead)))), (AV.v (Value.int IntKind.i64 (exInt (List.getD (AV.cells (List.getD (List.map clA cs) (Int.toNat i) AV.dead)) (1 : Nat) AV.dead)))), (AV.v (Value.int IntKind.i64 (exInt (List.getD (AV.cells (List.getD (List.map clA cs) (Int.toNat i) AV.dead)) (2 : Nat) AV.dead)))), (AV.v (Value.int IntKind.i64 (exInt (List.getD (AV.cells (List.getD (List.map clA cs) (Int.toNat i) AV.dead)) (3 : Nat) AV.dead))))])] (@List.nil Nat) (0 : Nat) (0 : Nat) true (@List.nil (Prod Nat Bool)) True)))) else (bif (decide ((1 : Int) ≤ (exInt (List.getD (AV.cells (List.getD (List.map clA cs) (Int.toNat i) AV.dead)) (2 : Nat) AV.dead)))) then (bif (!(decide ((exInt (List.getD (AV.cells (List.getD (List.map clA cs) (Int.toNat i) AV.dead)) (2 : Nat) AV.dead)) ≤ (8 : Int)))) then (some ((cds True (elemB Tryd.prog (47 : Nat) (List.map clA cs) i) (((0 : Int) ≤ i) ∧ (((List.map clA cs)[(Int.toNat i)]?) = (some (AV.v (Value.agg #[(Value.int IntKind.i64 (exInt (List.getD (AV.cells (List.getD (List.map clA cs) (Int.toNat i) AV.dead)) (0 : Nat) AV.dead))), (Value.int IntKind.i64 (exInt (List.getD (AV.cells (List.getD (List.map clA cs) (Int.toNat i) AV.dead)) (1 : Nat) AV.dead))), (Value.int IntKind.i64 (exInt (List.getD (AV.cells (List.getD (List.map clA cs) (Int.toNat i) AV.dead)) (2 : Nat) AV.dead))), (Value.int IntKind.i64 (exInt (List.getD (AV.cells (List.getD (List.map clA cs) (Int.toNat i) AV.dead)) (3 : Nat) AV.dead)))])))))) ∧ (R Exit.ret [AV.dead, (AV.v (Value.int IntKind.i64 self)), (AV.v (Value.int IntKind.i64 services)), (AV.ptr (0 : Nat) (0 : Nat)), AV.dead, AV.dead, (AV.v (Value.bool false)), (AV.v (Value.int IntKind.i64 i)), (AV.ptr (List.length [((26 : Nat), [(AV.v (Value.int IntKind.i64 x1)), (AV.v (Value.int IntKind.i64 x2)), (AV.v (Value.int IntKind.i64 x3)), (AV.v (Value.int IntKind.i64 x4)), (AV.v (Value.int IntKind.i64 x5)), (AV.v (Value.int IntKind.i64 x6)), (AV.v (Value.int IntKind.i64 x7)), (AV.v (Value.int IntKind.i64 x8)), (AV.v (Value.int IntKind.i64 x9)), (AV.v (Value.int IntKind.i64 x10)), (AV.v (Value.int IntKind.i64 x11)), (AV.v (Value.int IntKind.i64 x12)), (AV.v (Value.int IntKind.i64 x13)), (AV.lst (4 : Nat) (List.map clA cs) Tip.no)])]) (0 : Nat)), AV.dead, AV.dead, AV.dead, AV.dead, AV.dead, AV.dead, AV.dead, AV.dead, AV.dead, AV.dead, AV.dead, AV.dead, AV.dead, AV.dead, AV.dead, AV.dead, AV.dead, AV.dead, AV.dead, AV.dead, AV.dead, AV.dead, AV.dead, AV.dead, AV.dead, AV.dead, AV.dead, AV.dead, AV.dead, AV.dead, AV.dead, AV.dead, AV.dead, AV.dead, AV.dead, AV.dead, AV.dead, AV.dead, AV.dead, AV.dead, AV.dead, AV.dead, AV.dead, AV.dead, AV.dead, AV.dead, AV.dead, AV.dead, AV.dead, AV.dead, AV.dead, AV.dead, AV.dead, AV.dead, AV.dead, AV.dead, AV.dead, AV.dead, AV.dead, AV.dead, AV.dead, AV.dead, AV.dead] (AH.mk [((26 : Nat), [(AV.v (Value.int IntKind.i64 x1)), (AV.v (Value.int IntKind.i64 x2)), (AV.v (Value.int IntKind.i64 x3)), (AV.v (Value.int IntKind.i64 x4)), (AV.v (Value.int IntKind.i64 x5)), (AV.v (Value.int IntKind.i64 x6)), (AV.v (Value.int IntKind.i64 x7)), (AV.v (Value.int IntKind.i64 x8)), (AV.v (Value.int IntKind.i64 x9)), (AV.v (Value.int IntKind.i64 x10)), (AV.v (Value.int IntKind.i64 x11)), (AV.v (Value.int IntKind.i64 x12)), (AV.v (Value.int IntKind.i64 x13)), (AV.lst (4 : Nat) (List.map clA cs) Tip.no)]), ((47 : Nat), [(AV.v (Value.int IntKind.i64 (exInt (List.getD (AV.cells (List.getD (List.map clA cs) (Int.toNat i) AV.dead)) (0 : Nat) AV.dead)))), (AV.v (Value.int IntKind.i64 (exInt (List.getD (AV.cells (List.getD (List.map clA cs) (Int.toNat i) AV.dead)) (1 : Nat) AV.dead)))), (AV.v (Value.int IntKind.i64 (exInt (List.getD (AV.cells (List.getD (List.map clA cs) (Int.toNat i) AV.dead)) (2 : Nat) AV.dead)))), (AV.v (Value.int IntKind.i64 (exInt (List.getD (AV.cells (List.getD (List.map clA cs) (Int.toNat i) AV.dead)) (3 : Nat) AV.dead))))])] (@List.nil Nat) (0 : Nat) (0 : Nat) true (@List.nil (Prod Nat Bool)) True)))) else (bif (decide ((1 : Int) ≤ (exInt (List.getD (AV.cells (List.getD (List.map clA cs) (Int.toNat i) AV.dead)) (3 : Nat) AV.dead)))) then (bif (!(decide ((exInt (List.getD (AV.cells (List.getD (List.map clA cs) (Int.toNat i) AV.dead)) (3 : Nat) AV.dead)) ≤ (65535 : Int)))) then (some ((cds True (elemB Tryd.prog (47 : Nat) (List.map clA cs) i) (((0 : Int) ≤ i) ∧ (((List.map clA cs)[(Int.toNat i)]?) = (some (AV.v (Value.agg #[(Value.int IntKind.i64 (exInt (List.getD (AV.cells (List.getD (List.map clA cs) (Int.toNat i) AV.dead)) (0 : Nat) AV.dead))), (Value.int IntKind.i64 (exInt (List.getD (AV.cells (List.getD (List.map clA cs) (Int.toNat i) AV.dead)) (1 : Nat) AV.dead))), (Value.int IntKind.i64 (exInt (List.getD (AV.cells (List.getD (List.map clA cs) (Int.toNat i) AV.dead)) (2 : Nat) AV.dead))), (Value.int IntKind.i64 (exInt (List.getD (AV.cells (List.getD (List.map clA cs) (Int.toNat i) AV.dead)) (3 : Nat) AV.dead)))])))))) ∧ (R Exit.ret [AV.dead, (AV.v (Value.int IntKind.i64 self)), (AV.v (Value.int IntKind.i64 services)), (AV.ptr (0 : Nat) (0 : Nat)), AV.dead, AV.dead, (AV.v (Value.bool false)), (AV.v (Value.int IntKind.i64 i)), (AV.ptr (List.length [((26 : Nat), [(AV.v (Value.int IntKind.i64 x1)), (AV.v (Value.int IntKind.i64 x2)), (AV.v (Value.int IntKind.i64 x3)), (AV.v (Value.int IntKind.i64 x4)), (AV.v (Value.int IntKind.i64 x5)), (AV.v (Value.int IntKind.i64 x6)), (AV.v (Value.int IntKind.i64 x7)), (AV.v (Value.int IntKind.i64 x8)), (AV.v (Value.int IntKind.i64 x9)), (AV.v (Value.int IntKind.i64 x10)), (AV.v (Value.int IntKind.i64 x11)), (AV.v (Value.int IntKind.i64 x12)), (AV.v (Value.int IntKind.i64 x13)), (AV.lst (4 : Nat) (List.map clA cs) Tip.no)])]) (0 : Nat)), AV.dead, AV.dead, AV.dead, AV.dead, AV.dead, AV.dead, AV.dead, AV.dead, AV.dead, AV.dead, AV.dead, AV.dead, AV.dead, AV.dead, AV.dead, AV.dead, AV.dead, AV.dead, AV.dead, AV.dead, AV.dead, AV.dead, AV.dead, AV.dead, AV.dead, AV.dead, AV.dead, AV.dead, AV.dead, AV.dead, AV.dead, AV.dead, AV.dead, AV.dead, AV.dead, AV.dead, AV.dead, AV.dead, AV.dead, AV.dead, AV.dead, AV.dead, AV.dead, AV.dead, AV.dead, AV.dead, AV.dead, AV.dead, AV.dead, AV.dead, AV.dead, AV.dead, AV.dead, AV.dead, AV.dead, AV.dead, AV.dead, AV.dead, AV.dead, AV.dead, AV.dead, AV.dead, AV.dead] (AH.mk [((26 : Nat), [(AV.v (Value.int IntKind.i64 x1)), (AV.v (Value.int IntKind.i64 x2)), (AV.v (Value.int IntKind.i64 x3)), (AV.v (Value.int IntKind.i64 x4)), (AV.v (Value.int IntKind.i64 x5)), (AV.v (Value.int IntKind.i64 x6)), (AV.v (Value.int IntKind.i64 x7)), (AV.v (Value.int IntKind.i64 x8)), (AV.v (Value.int IntKind.i64 x9)), (AV.v (Value.int IntKind.i64 x10)), (AV.v (Value.int IntKind.i64 x11)), (AV.v (Value.int IntKind.i64 x12)), (AV.v (Value.int IntKind.i64 x13)), (AV.lst (4 : Nat) (List.map clA cs) Tip.no)]), ((47 : Nat), [(AV.v (Value.int IntKind.i64 (exInt (List.getD (AV.cells (List.getD (List.map clA cs) (Int.toNat i) AV.dead)) (0 : Nat) AV.dead)))), (AV.v (Value.int IntKind.i64 (exInt (List.getD (AV.cells (List.getD (List.map clA cs) (Int.toNat i) AV.dead)) (1 : Nat) AV.dead)))), (AV.v (Value.int IntKind.i64 (exInt (List.getD (AV.cells (List.getD (List.map clA cs) (Int.toNat i) AV.dead)) (2 : Nat) AV.dead)))), (AV.v (Value.int IntKind.i64 (exInt (List.getD (AV.cells (List.getD (List.map clA cs) (Int.toNat i) AV.dead)) (3 : Nat) AV.dead))))])] (@List.nil Nat) (0 : Nat) (0 : Nat) true (@List.nil (Prod Nat Bool)) True)))) else (some ((cds True (elemB Tryd.prog (47 : Nat) (List.map clA cs) i) (((0 : Int) ≤ i) ∧ (((List.map clA cs)[(Int.toNat i)]?) = (some (AV.v (Value.agg #[(Value.int IntKind.i64 (exInt (List.getD (AV.cells (List.getD (List.map clA cs) (Int.toNat i) AV.dead)) (0 : Nat) AV.dead))), (Value.int IntKind.i64 (exInt (List.getD (AV.cells (List.getD (List.map clA cs) (Int.toNat i) AV.dead)) (1 : Nat) AV.dead))), (Value.int IntKind.i64 (exInt (List.getD (AV.cells (List.getD (List.map clA cs) (Int.toNat i) AV.dead)) (2 : Nat) AV.dead))), (Value.int IntKind.i64 (exInt (List.getD (AV.cells (List.getD (List.map clA cs) (Int.toNat i) AV.dead)) (3 : Nat) AV.dead)))])))))) ∧ (R Exit.normal [AV.dead, (AV.v (Value.int IntKind.i64 self)), (AV.v (Value.int IntKind.i64 services)), (AV.ptr (0 : Nat) (0 : Nat)), AV.dead, AV.dead, AV.dead, (AV.v (Value.int IntKind.i64 i)), (AV.ptr (List.length [((26 : Nat), [(AV.v (Value.int IntKind.i64 x1)), (AV.v (Value.int IntKind.i64 x2)), (AV.v (Value.int IntKind.i64 x3)), (AV.v (Value.int IntKind.i64 x4)), (AV.v (Value.int IntKind.i64 x5)), (AV.v (Value.int IntKind.i64 x6)), (AV.v (Value.int IntKind.i64 x7)), (AV.v (Value.int IntKind.i64 x8)), (AV.v (Value.int IntKind.i64 x9)), (AV.v (Value.int IntKind.i64 x10)), (AV.v (Value.int IntKind.i64 x11)), (AV.v (Value.int IntKind.i64 x12)), (AV.v (Value.int IntKind.i64 x13)), (AV.lst (4 : Nat) (List.map clA cs) Tip.no)])]) (0 : Nat)), (AV.v (Value.int IntKind.i64 (0 : Int))), AV.dead, AV.dead, AV.dead, AV.dead, AV.dead, AV.dead, AV.dead, AV.dead, AV.dead, AV.dead, AV.dead, AV.dead, AV.dead, AV.dead, AV.dead, AV.dead, AV.dead, AV.dead, AV.dead, AV.dead, AV.dead, AV.dead, AV.dead, AV.dead, AV.dead, AV.dead, AV.dead, AV.dead, AV.dead, AV.dead, AV.dead, AV.dead, AV.dead, AV.dead, AV.dead, AV.dead, AV.dead, AV.dead, AV.dead, AV.dead, AV.dead, AV.dead, AV.dead, AV.dead, AV.dead, AV.dead, AV.dead, AV.dead, AV.dead, AV.dead, AV.dead, AV.dead, AV.dead, AV.dead, AV.dead, AV.dead, AV.dead, AV.dead, AV.dead, AV.dead, AV.dead, AV.dead] (AH.mk [((26 : Nat), [(AV.v (Value.int IntKind.i64 x1)), (AV.v (Value.int IntKind.i64 x2)), (AV.v (Value.int IntKind.i64 x3)), (AV.v (Value.int IntKind.i64 x4)), (AV.v (Value.int IntKind.i64 x5)), (AV.v (Value.int IntKind.i64 x6)), (AV.v (Value.int IntKind.i64 x7)), (AV.v (Value.int IntKind.i64 x8)), (AV.v (Value.int IntKind.i64 x9)), (AV.v (Value.int IntKind.i64 x10)), (AV.v (Value.int IntKind.i64 x11)), (AV.v (Value.int IntKind.i64 x12)), (AV.v (Value.int IntKind.i64 x13)), (AV.lst (4 : Nat) (List.map clA cs) Tip.no)]), ((47 : Nat), [(AV.v (Value.int IntKind.i64 (exInt (List.getD (AV.cells (List.getD (List.map clA cs) (Int.toNat i) AV.dead)) (0 : Nat) AV.dead)))), (AV.v (Value.int IntKind.i64 (exInt (List.getD (AV.cells (List.getD (List.map clA cs) (Int.toNat i) AV.dead)) (1 : Nat) AV.dead)))), (AV.v (Value.int IntKind.i64 (exInt (List.getD (AV.cells (List.getD (List.map clA cs) (Int.toNat i) AV.dead)) (2 : Nat) AV.dead)))), (AV.v (Value.int IntKind.i64 (exInt (List.getD (AV.cells (List.getD (List.map clA cs) (Int.toNat i) AV.dead)) (3 : Nat) AV.dead))))])] (@List.nil Nat) (0 : Nat) (0 : Nat) true (@List.nil (Prod Nat Bool)) True))))) else (some ((cds True (elemB Tryd.prog (47 : Nat) (List.map clA cs) i) (((0 : Int) ≤ i) ∧ (((List.map clA cs)[(Int.toNat i)]?) = (some (AV.v (Value.agg #[(Value.int IntKind.i64 (exInt (List.getD (AV.cells (List.getD (List.map clA cs) (Int.toNat i) AV.dead)) (0 : Nat) AV.dead))), (Value.int IntKind.i64 (exInt (List.getD (AV.cells (List.getD (List.map clA cs) (Int.toNat i) AV.dead)) (1 : Nat) AV.dead))), (Value.int IntKind.i64 (exInt (List.getD (AV.cells (List.getD (List.map clA cs) (Int.toNat i) AV.dead)) (2 : Nat) AV.dead))), (Value.int IntKind.i64 (exInt (List.getD (AV.cells (List.getD (List.map clA cs) (Int.toNat i) AV.dead)) (3 : Nat) AV.dead)))])))))) ∧ (R Exit.ret [AV.dead, (AV.v (Value.int IntKind.i64 self)), (AV.v (Value.int IntKind.i64 services)), (AV.ptr (0 : Nat) (0 : Nat)), AV.dead, AV.dead, (AV.v (Value.bool false)), (AV.v (Value.int IntKind.i64 i)), (AV.ptr (List.length [((26 : Nat), [(AV.v (Value.int IntKind.i64 x1)), (AV.v (Value.int IntKind.i64 x2)), (AV.v (Value.int IntKind.i64 x3)), (AV.v (Value.int IntKind.i64 x4)), (AV.v (Value.int IntKind.i64 x5)), (AV.v (Value.int IntKind.i64 x6)), (AV.v (Value.int IntKind.i64 x7)), (AV.v (Value.int IntKind.i64 x8)), (AV.v (Value.int IntKind.i64 x9)), (AV.v (Value.int IntKind.i64 x10)), (AV.v (Value.int IntKind.i64 x11)), (AV.v (Value.int IntKind.i64 x12)), (AV.v (Value.int IntKind.i64 x13)), (AV.lst (4 : Nat) (List.map clA cs) Tip.no)])]) (0 : Nat)), AV.dead, AV.dead, AV.dead, AV.dead, AV.dead, AV.dead, AV.dead, AV.dead, AV.dead, AV.dead, AV.dead, AV.dead, AV.dead, AV.dead, AV.dead, AV.dead, AV.dead, AV.dead, AV.dead, AV.dead, AV.dead, AV.dead, AV.dead, AV.dead, AV.dead, AV.dead, AV.dead, AV.dead, AV.dead, AV.dead, AV.dead, AV.dead, AV.dead, AV.dead, AV.dead, AV.dead, AV.dead, AV.dead, AV.dead, AV.dead, AV.dead, AV.dead, AV.dead, AV.dead, AV.dead, AV.dead, AV.dead, AV.dead, AV.dead, AV.dead, AV.dead, AV.dead, AV.dead, AV.dead, AV.dead, AV.dead, AV.dead, AV.dead, AV.dead, AV.dead, AV.dead, AV.dead, AV.dead] (AH.mk [((26 : Nat), [(AV.v (Value.int IntKind.i64 x1)), (AV.v (Value.int IntKind.i64 x2)), (AV.v (Value.int IntKind.i64 x3)), (AV.v (Value.int IntKind.i64 x4)), (AV.v (Value.int IntKind.i64 x5)), (AV.v (Value.int IntKind.i64 x6)), (AV.v (Value.int IntKind.i64 x7)), (AV.v (Value.int IntKind.i64 x8)), (AV.v (Value.int IntKind.i64 x9)), (AV.v (Value.int IntKind.i64 x10)), (AV.v (Value.int IntKind.i64 x11)), (AV.v (Value.int IntKind.i64 x12)), (AV.v (Value.int IntKind.i64 x13)), (AV.lst (4 : Nat) (List.map clA cs) Tip.no)]), ((47 : Nat), [(AV.v (Value.int IntKind.i64 (exInt (List.getD (AV.cells (List.getD (List.map clA cs) (Int.toNat i) AV.dead)) (0 : Nat) AV.dead)))), (AV.v (Value.int IntKind.i64 (exInt (List.getD (AV.cells (List.getD (List.map clA cs) (Int.toNat i) AV.dead)) (1 : Nat) AV.dead)))), (AV.v (Value.int IntKind.i64 (exInt (List.getD (AV.cells (List.getD (List.map clA cs) (Int.toNat i) AV.dead)) (2 : Nat) AV.dead)))), (AV.v (Value.int IntKind.i64 (exInt (List.getD (AV.cells (List.getD (List.map clA cs) (Int.toNat i) AV.dead)) (3 : Nat) AV.dead))))])] (@List.nil Nat) (0 : Nat) (0 : Nat) true (@List.nil (Prod Nat Bool)) True)))))) else (some ((cds True (elemB Tryd.prog (47 : Nat) (List.map clA cs) i) (((0 : Int) ≤ i) ∧ (((List.map clA cs)[(Int.toNat i)]?) = (some (AV.v (Value.agg #[(Value.int IntKind.i64 (exInt (List.getD (AV.cells (List.getD (List.map clA cs) (Int.toNat i) AV.dead)) (0 : Nat) AV.dead))), (Value.int IntKind.i64 (exInt (List.getD (AV.cells (List.getD (List.map clA cs) (Int.toNat i) AV.dead)) (1 : Nat) AV.dead))), (Value.int IntKind.i64 (exInt (List.getD (AV.cells (List.getD (List.map clA cs) (Int.toNat i) AV.dead)) (2 : Nat) AV.dead))), (Value.int IntKind.i64 (exInt (List.getD (AV.cells (List.getD (List.map clA cs) (Int.toNat i) AV.dead)) (3 : Nat) AV.dead)))])))))) ∧ (R Exit.ret [AV.dead, (AV.v (Value.int IntKind.i64 self)), (AV.v (Value.int IntKind.i64 services)), (AV.ptr (0 : Nat) (0 : Nat)), AV.dead, AV.dead, (AV.v (Value.bool false)), (AV.v (Value.int IntKind.i64 i)), (AV.ptr (List.length [((26 : Nat), [(AV.v (Value.int IntKind.i64 x1)), (AV.v (Value.int IntKind.i64 x2)), (AV.v (Value.int IntKind.i64 x3)), (AV.v (Value.int IntKind.i64 x4)), (AV.v (Value.int IntKind.i64 x5)), (AV.v (Value.int IntKind.i64 x6)), (AV.v (Value.int IntKind.i64 x7)), (AV.v (Value.int IntKind.i64 x8)), (AV.v (Value.int IntKind.i64 x9)), (AV.v (Value.int IntKind.i64 x10)), (AV.v (Value.int IntKind.i64 x11)), (AV.v (Value.int IntKind.i64 x12)), (AV.v (Value.int IntKind.i64 x13)), (AV.lst (4 : Nat) (List.map clA cs) Tip.no)])]) (0 : Nat)), AV.dead, AV.dead, AV.dead, AV.dead, AV.dead, AV.dead, AV.dead, AV.dead, AV.dead, AV.dead, AV.dead, AV.dead, AV.dead, AV.dead, AV.dead, AV.dead, AV.dead, AV.dead, AV.dead, AV.dead, AV.dead, AV.dead, AV.dead, AV.dead, AV.dead, AV.dead, AV.dead, AV.dead, AV.dead, AV.dead, AV.dead, AV.dead, AV.dead, AV.dead, AV.dead, AV.dead, AV.dead, AV.dead, AV.dead, AV.dead, AV.dead, AV.dead, AV.dead, AV.dead, AV.dead, AV.dead, AV.dead, AV.dead, AV.dead, AV.dead, AV.dead, AV.dead, AV.dead, AV.dead, AV.dead, AV.dead, AV.dead, AV.dead, AV.dead, AV.dead, AV.dead, AV.dead, AV.dead] (AH.mk [((26 : Nat), [(AV.v (Value.int IntKind.i64 x1)), (AV.v (Value.int IntKind.i64 x2)), (AV.v (Value.int IntKind.i64 x3)), (AV.v (Value.int IntKind.i64 x4)), (AV.v (Value.int IntKind.i64 x5)), (AV.v (Value.int IntKind.i64 x6)), (AV.v (Value.int IntKind.i64 x7)), (AV.v (Value.int IntKind.i64 x8)), (AV.v (Value.int IntKind.i64 x9)), (AV.v (Value.int IntKind.i64 x10)), (AV.v (Value.int IntKind.i64 x11)), (AV.v (Value.int IntKind.i64 x12)), (AV.v (Value.int IntKind.i64 x13)), (AV.lst (4 : Nat) (List.map clA cs) Tip.no)]), ((47 : Nat), [(AV.v (Value.int IntKind.i64 (exInt (List.getD (AV.cells (List.getD (List.map clA cs) (Int.toNat i) AV.dead)) (0 : Nat) AV.dead)))), (AV.v (Value.int IntKind.i64 (exInt (List.getD (AV.cells (List.getD (List.map clA cs) (Int.toNat i) AV.dead)) (1 : Nat) AV.dead)))), (AV.v (Value.int IntKind.i64 (exInt (List.getD (AV.cells (List.getD (List.map clA cs) (Int.toNat i) AV.dead)) (2 : Nat) AV.dead)))), (AV.v (Value.int IntKind.i64 (exInt (List.getD (AV.cells (List.getD (List.map clA cs) (Int.toNat i) AV.dead)) (3 : Nat) AV.dead))))])] (@List.nil Nat) (0 : Nat) (0 : Nat) true (@List.nil (Prod Nat Bool)) True)))))) else (some ((cds True (elemB Tryd.prog (47 : Nat) (List.map clA cs) i) (((0 : Int) ≤ i) ∧ (((List.map clA cs)[(Int.toNat i)]?) = (some (AV.v (Value.agg #[(Value.int IntKind.i64 (exInt (List.getD (AV.cells (List.getD (List.map clA cs) (Int.toNat i) AV.dead)) (0 : Nat) AV.dead))), (Value.int IntKind.i64 (exInt (List.getD (AV.cells (List.getD (List.map clA cs) (Int.toNat i) AV.dead)) (1 : Nat) AV.dead))), (Value.int IntKind.i64 (exInt (List.getD (AV.cells (List.getD (List.map clA cs) (Int.toNat i) AV.dead)) (2 : Nat) AV.dead))), (Value.int IntKind.i64 (exInt (List.getD (AV.cells (List.getD (List.map clA cs) (Int.toNat i) AV.dead)) (3 : Nat) AV.dead)))])))))) ∧ (R Exit.ret [AV.dead, (AV.v (Value.int IntKind.i64 self)), (AV.v (Value.int IntKind.i64 services)), (AV.ptr (0 : Nat) (0 : Nat)), AV.dead, AV.dead, (AV.v (Value.bool false)), (AV.v (Value.int IntKind.i64 i)), (AV.ptr (List.length [((26 : Nat), [(AV.v (Value.int IntKind.i64 x1)), (AV.v (Value.int IntKind.i64 x2)), (AV.v (Value.int IntKind.i64 x3)), (AV.v (Value.int IntKind.i64 x4)), (AV.v (Value.int IntKind.i64 x5)), (AV.v (Value.int IntKind.i64 x6)), (AV.v (Value.int IntKind.i64 x7)), (AV.v (Value.int IntKind.i64 x8)), (AV.v (Value.int IntKind.i64 x9)), (AV.v (Value.int IntKind.i64 x10)), (AV.v (Value.int IntKind.i64 x11)), (AV.v (Value.int IntKind.i64 x12)), (AV.v (Value.int IntKind.i64 x13)), (AV.lst (4 : Nat) (List.map clA cs) Tip.no)])]) (0 : Nat)), AV.dead, AV.dead, AV.dead, AV.dead, AV.dead, AV.dead, AV.dead, AV.dead, AV.dead, AV.dead, AV.dead, AV.dead, AV.dead, AV.dead, AV.dead, AV.dead, AV.dead, AV.dead, AV.dead, AV.dead, AV.dead, AV.dead, AV.dead, AV.dead, AV.dead, AV.dead, AV.dead, AV.dead, AV.dead, AV.dead, AV.dead, AV.dead, AV.dead, AV.dead, AV.dead, AV.dead, AV.dead, AV.dead, AV.dead, AV.dead, AV.dead, AV.dead, AV.dead, AV.dead, AV.dead, AV.dead, AV.dead, AV.dead, AV.dead, AV.dead, AV.dead, AV.dead, AV.dead, AV.dead, AV.dead, AV.dead, AV.dead, AV.dead, AV.dead, AV.dead, AV.dead, AV.dead, AV.dead] (AH.mk [((26 : Nat), [(AV.v (Value.int IntKind.i64 x1)), (AV.v (Value.int IntKind.i64 x2)), (AV.v (Value.int IntKind.i64 x3)), (AV.v (Value.int IntKind.i64 x4)), (AV.v (Value.int IntKind.i64 x5)), (AV.v (Value.int IntKind.i64 x6)), (AV.v (Value.int IntKind.i64 x7)), (AV.v (Value.int IntKind.i64 x8)), (AV.v (Value.int IntKind.i64 x9)), (AV.v (Value.int IntKind.i64 x10)), (AV.v (Value.int IntKind.i64 x11)), (AV.v (Value.int IntKind.i64 x12)), (AV.v (Value.int IntKind.i64 x13)), (AV.lst (4 : Nat) (List.map clA cs) Tip.no)]), ((47 : Nat), [(AV.v (Value.int IntKind.i64 (exInt (List.getD (AV.cells (List.getD (List.map clA cs) (Int.toNat i) AV.dead)) (0 : Nat) AV.dead)))), (AV.v (Value.int IntKind.i64 (exInt (List.getD (AV.cells (List.getD (List.map clA cs) (Int.toNat i) AV.dead)) (1 : Nat) AV.dead)))), (AV.v (Value.int IntKind.i64 (exInt (List.getD (AV.cells (List.getD (List.map clA cs) (Int.toNat i) AV.dead)) (2 : Nat) AV.dead)))), (AV.v (Value.int IntKind.i64 (exInt (List.getD (AV.cells (List.getD (List.map clA cs) (Int.toNat i) AV.dead)) (3 : Nat) AV.dead))))])] (@List.nil Nat) (0 : Nat) (0 : Nat) true (@List.nil (Prod Nat Bool)) True))))))) else (some ((cds True (elemB Tryd.prog (47 : Nat) (List.map clA cs) i) (((0 : Int) ≤ i) ∧ (((List.map clA cs)[(Int.toNat i)]?) = (some (AV.v (Value.agg #[(Value.int IntKind.i64 (exInt (List.getD (AV.cells (List.getD (List.map clA cs) (Int.toNat i) AV.dead)) (0 : Nat) AV.dead))), (Value.int IntKind.i64 (exInt (List.getD (AV.cells (List.getD (List.map clA cs) (Int.toNat i) AV.dead)) (1 : Nat) AV.dead))), (Value.int IntKind.i64 (exInt (List.getD (AV.cells (List.getD (List.map clA cs) (Int.toNat i) AV.dead)) (2 : Nat) AV.dead))), (Value.int IntKind.i64 (exInt (List.getD (AV.cells (List.getD (List.map clA cs) (Int.toNat i) AV.dead)) (3 : Nat) AV.dead)))])))))) ∧ (R Exit.ret [AV.dead, (AV.v (Value.int IntKind.i64 self)), (AV.v (Value.int IntKind.i64 services)), (AV.ptr (0 : Nat) (0 : Nat)), AV.dead, AV.dead, (AV.v (Value.bool false)), (AV.v (Value.int IntKind.i64 i)), (AV.ptr (List.length [((26 : Nat), [(AV.v (Value.int IntKind.i64 x1)), (AV.v (Value.int IntKind.i64 x2)), (AV.v (Value.int IntKind.i64 x3)), (AV.v (Value.int IntKind.i64 x4)), (AV.v (Value.int IntKind.i64 x5)), (AV.v (Value.int IntKind.i64 x6)), (AV.v (Value.int IntKind.i64 x7)), (AV.v (Value.int IntKind.i64 x8)), (AV.v (Value.int IntKind.i64 x9)), (AV.v (Value.int IntKind.i64 x10)), (AV.v (Value.int IntKind.i64 x11)), (AV.v (Value.int IntKind.i64 x12)), (AV.v (Value.int IntKind.i64 x13)), (AV.lst (4 : Nat) (List.map clA cs) Tip.no)])]) (0 : Nat)), AV.dead, AV.dead, AV.dead, AV.dead, AV.dead, AV.dead, AV.dead, AV.dead, AV.dead, AV.dead, AV.dead, AV.dead, AV.dead, AV.dead, AV.dead, AV.dead, AV.dead, AV.dead, AV.dead, AV.dead, AV.dead, AV.dead, AV.dead, AV.dead, AV.dead, AV.dead, AV.dead, AV.dead, AV.dead, AV.dead, AV.dead, AV.dead, AV.dead, AV.dead, AV.dead, AV.dead, AV.dead, AV.dead, AV.dead, AV.dead, AV.dead, AV.dead, AV.dead, AV.dead, AV.dead, AV.dead, AV.dead, AV.dead, AV.dead, AV.dead, AV.dead, AV.dead, AV.dead, AV.dead, AV.dead, AV.dead, AV.dead, AV.dead, AV.dead, AV.dead, AV.dead, AV.dead, AV.dead] (AH.mk [((26 : Nat), [(AV.v (Value.int IntKind.i64 x1)), (AV.v (Value.int IntKind.i64 x2)), (AV.v (Value.int IntKind.i64 x3)), (AV.v (Value.int IntKind.i64 x4)), (AV.v (Value.int IntKind.i64 x5)), (AV.v (Value.int IntKind.i64 x6)), (AV.v (Value.int IntKind.i64 x7)), (AV.v (Value.int IntKind.i64 x8)), (AV.v (Value.int IntKind.i64 x9)), (AV.v (Value.int IntKind.i64 x10)), (AV.v (Value.int IntKind.i64 x11)), (AV.v (Value.int IntKind.i64 x12)), (AV.v (Value.int IntKind.i64 x13)), (AV.lst (4 : Nat) (List.map clA cs) Tip.no)]), ((47 : Nat), [(AV.v (Value.int IntKind.i64 (exInt (List.getD (AV.cells (List.getD (List.map clA cs) (Int.toNat i) AV.dead)) (0 : Nat) AV.dead)))), (AV.v (Value.int IntKind.i64 (exInt (List.getD (AV.cells (List.getD (List.map clA cs) (Int.toNat i) AV.dead)) (1 : Nat) AV.dead)))), (AV.v (Value.int IntKind.i64 (exInt (List.getD (AV.cells (List.getD (List.map clA cs) (Int.toNat i) AV.dead)) (2 : Nat) AV.dead)))), (AV.v (Value.int IntKind.i64 (exInt (List.getD (AV.cells (List.getD (List.map clA cs) (Int.toNat i) AV.dead)) (3 : Nat) AV.dead))))])] (@List.nil Nat) (0 : Nat) (0 : Nat) true (@List.nil (Prod Nat Bool)) True))))) := by kernel_rfl
theorem cq_y (ro : Nat → Option (List Value)) (x1 x2 x3 x4 x5 x6 x7 x8 x9 x10 x11 x12 x13 : Int) (cs : List Cl) (self services i k : Int) (c : Cl) (R : Exit → List AV → AH → Prop) : code ro (fun _ => false) (fun _ => none) 8 cqY (cqA self services i (.ptr 1 0) (gi k)) (hp [(26, svcQ x1 x2 x3 x4 x5 x6 x7 x8 x9 x10 x11 x12 x13 cs), (47, clC c)] []) (kp [1, 2, 3, 6, 7, 8, 9] R) =
    (bif (decide (k < i)) then (bif ((exInt (List.getD (AV.cells (List.getD (List.map clA cs) (Int.toNat k) AV.dead)) (0 : Nat) AV.dead)) == (c).1) then (some ((cds True (elemB Tryd.prog (47 : Nat) (List.map clA cs) k) (((0 : Int) ≤ k) ∧ (((List.map clA cs)[(Int.toNat k)]?) = (some (AV.v (Value.agg #[(Value.int IntKind.i64 (exInt (List.getD (AV.cells (List.getD (List.map clA cs) (Int.toNat k) AV.dead)) (0 : Nat) AV.dead))), (Value.int IntKind.i64 (exInt (List.getD (AV.cells (List.getD (List.map clA cs) (Int.toNat k) AV.dead)) (1 : Nat) AV.dead))), (Value.int IntKind.i64 (exInt (List.getD (AV.cells (List.getD (List.map clA cs) (Int.toNat k) AV.dead)) (2 : Nat) AV.dead))), (Value.int IntKind.i64 (exInt (List.getD (AV.cells (List.getD (List.map clA cs) (Int.toNat k) AV.dead)) (3 : Nat) AV.dead)))])))))) ∧ (R Exit.ret [AV.dead, (AV.v (Value.int IntKind.i64 self)), (AV.v (Value.int IntKind.i64 services)), (AV.ptr (0 : Nat) (0 : Nat)), AV.dead, AV.dead, (AV.v (Value.bool false)), (AV.v (Value.int IntKind.i64 i)), (AV.ptr (1 : Nat) (0 : Nat)), (AV.v (Value.int IntKind.i64 k)), AV.dead, AV.dead, AV.dead, AV.dead, AV.dead, AV.dead, AV.dead, AV.dead, AV.dead, AV.dead, AV.dead, AV.dead, AV.dead, AV.dead, AV.dead, AV.dead, AV.dead, AV.dead, AV.dead, AV.dead, AV.dead, AV.dead, AV.dead, AV.dead, AV.dead, AV.dead, AV.dead, AV.dead, AV.dead, AV.dead, AV.dead, AV.dead, AV.dead, AV.dead, AV.dead, AV.dead, AV.dead, AV.dead, AV.dead, AV.dead, AV.dead, AV.dead, AV.dead, AV.dead, AV.dead, AV.dead, AV.dead, AV.dead, AV.dead, AV.dead, AV.dead, AV.dead, AV.dead, AV.dead, AV.dead, AV.dead, AV.dead, AV.dead, AV.dead, AV.dead, AV.dead, AV.dead] (AH.mk [((26 : Nat), [(AV.v (Value.int IntKind.i64 x1)), (AV.v (Value.int IntKind.i64 x2)), (AV.v (Value.int IntKind.i64 x3)), (AV.v (Value.int IntKind.i64 x4)), (AV.v (Value.int IntKind.i64 x5)), (AV.v (Value.int IntKind.i64 x6)), (AV.v (Value.int IntKind.i64 x7)), (AV.v (Value.int IntKind.i64 x8)), (AV.v (Value.int IntKind.i64 x9)), (AV.v (Value.int IntKind.i64 x10)), (AV.v (Value.int IntKind.i64 x11)), (AV.v (Value.int IntKind.i64 x12)), (AV.v (Value.int IntKind.i64 x13)), (AV.lst (4 : Nat) (List.map clA cs) Tip.no)]), ((47 : Nat), [(AV.v (Value.int IntKind.i64 (c).1)), (AV.v (Value.int IntKind.i64 (c).2)), (AV.v (Value.int IntKind.i64 (c).3)), (AV.v (Value.int IntKind.i64 (c).4))])] (@List.nil Nat) (0 : Nat) (0 : Nat) true (@List.nil (Prod Nat Bool)) True)))) else (some ((cds True (elemB Tryd.prog (47 : Nat) (List.map clA cs) k) (((0 : Int) ≤ k) ∧ (((List.map clA cs)[(Int.toNat k)]?) = (some (AV.v (Value.agg #[(Value.int IntKind.i64 (exInt (List.getD (AV.cells (List.getD (List.map clA cs) (Int.toNat k) AV.dead)) (0 : Nat) AV.dead))), (Value.int IntKind.i64 (exInt (List.getD (AV.cells (List.getD (List.map clA cs) (Int.toNat k) AV.dead)) (1 : Nat) AV.dead))), (Value.int IntKind.i64 (exInt (List.getD (AV.cells (List.getD (List.map clA cs) (Int.toNat k) AV.dead)) (2 : Nat) AV.dead))), (Value.int IntKind.i64 (exInt (List.getD (AV.cells (List.getD (List.map clA cs) (Int.toNat k) AV.dead)) (3 : Nat) AV.dead)))])))))) ∧ (R Exit.normal [AV.dead, (AV.v (Value.int IntKind.i64 self)), (AV.v (Value.int IntKind.i64 services)), (AV.ptr (0 : Nat) (0 : Nat)), AV.dead, AV.dead, AV.dead, (AV.v (Value.int IntKind.i64 i)), (AV.ptr (1 : Nat) (0 : Nat)), (AV.v (Value.int IntKind.i64 (IntKind.wrap IntKind.i64 (k + (1 : Int))))), AV.dead, AV.dead, AV.dead, AV.dead, AV.dead, AV.dead, AV.dead, AV.dead, AV.dead, AV.dead, AV.dead, AV.dead, AV.dead, AV.dead, AV.dead, AV.dead, AV.dead, AV.dead, AV.dead, AV.dead, AV.dead, AV.dead, AV.dead, AV.dead, AV.dead, AV.dead, AV.dead, AV.dead, AV.dead, AV.dead, AV.dead, AV.dead, AV.dead, AV.dead, AV.dead, AV.dead, AV.dead, AV.dead, AV.dead, AV.dead, AV.dead, AV.dead, AV.dead, AV.dead, AV.dead, AV.dead, AV.dead, AV.dead, AV.dead, AV.dead, AV.dead, AV.dead, AV.dead, AV.dead, AV.dead, AV.dead, AV.dead, AV.dead, AV.dead, AV.dead, AV.dead, AV.dead] (AH.mk [((26 : Nat), [(AV.v (Value.int IntKind.i64 x1)), (AV.v (Value.int IntKind.i64 x2)), (AV.v (Value.int IntKind.i64 x3)), (AV.v (Value.int IntKind.i64 x4)), (AV.v (Value.int IntKind.i64 x5)), (AV.v (Value.int IntKind.i64 x6)), (AV.v (Value.int IntKind.i64 x7)), (AV.v (Value.int IntKind.i64 x8)), (AV.v (Value.int IntKind.i64 x9)), (AV.v (Value.int IntKind.i64 x10)), (AV.v (Value.int IntKind.i64 x11)), (AV.v (Value.int IntKind.i64 x12)), (AV.v (Value.int IntKind.i64 x13)), (AV.lst (4 : Nat) (List.map clA cs) Tip.no)]), ((47 : Nat), [(AV.v (Value.int IntKind.i64 (c).1)), (AV.v (Value.int IntKind.i64 (c).2)), (AV.v (Value.int IntKind.i64 (c).3)), (AV.v (Value.int IntKind.i64 (c).4))])] (@List.nil Nat) (0 : Nat) (0 : Nat) true (@List.nil (Prod Nat Bool)) True))))) else (some (True ∧ (R (Exit.exit (2 : Nat)) [AV.dead, (AV.v (Value.int IntKind.i64 self)), (AV.v (Value.int IntKind.i64 services)), (AV.ptr (0 : Nat) (0 : Nat)), AV.dead, AV.dead, AV.dead, (AV.v (Value.int IntKind.i64 i)), (AV.ptr (1 : Nat) (0 : Nat)), (AV.v (Value.int IntKind.i64 k)), AV.dead, AV.dead, AV.dead, AV.dead, AV.dead, AV.dead, AV.dead, AV.dead, AV.dead, AV.dead, AV.dead, AV.dead, AV.dead, AV.dead, AV.dead, AV.dead, AV.dead, AV.dead, AV.dead, AV.dead, AV.dead, AV.dead, AV.dead, AV.dead, AV.dead, AV.dead, AV.dead, AV.dead, AV.dead, AV.dead, AV.dead, AV.dead, AV.dead, AV.dead, AV.dead, AV.dead, AV.dead, AV.dead, AV.dead, AV.dead, AV.dead, AV.dead, AV.dead, AV.dead, AV.dead, AV.dead, AV.dead, AV.dead, AV.dead, AV.dead, AV.dead, AV.dead, AV.dead, AV.dead, AV.dead, AV.dead, AV.dead, AV.dead, AV.dead, AV.dead, AV.dead, AV.dead] (AH.mk [((26 : Nat), [(AV.v (Value.int IntKind.i64 x1)), (AV.v (Value.int IntKind.i64 x2)), (AV.v (Value.int IntKind.i64 x3)), (AV.v (Value.int IntKind.i64 x4)), (AV.v (Value.int IntKind.i64 x5)), (AV.v (Value.int IntKind.i64 x6)), (AV.v (Value.int IntKind.i64 x7)), (AV.v (Value.int IntKind.i64 x8)), (AV.v (Value.int IntKind.i64 x9)), (AV.v (Value.int IntKind.i64 x10)), (AV.v (Value.int IntKind.i64 x11)), (AV.v (Value.int IntKind.i64 x12)), (AV.v (Value.int IntKind.i64 x13)), (AV.lst (4 : Nat) (List.map clA cs) Tip.no)]), ((47 : Nat), [(AV.v (Value.int IntKind.i64 (c).1)), (AV.v (Value.int IntKind.i64 (c).2)), (AV.v (Value.int IntKind.i64 (c).3)), (AV.v (Value.int IntKind.i64 (c).4))])] (@List.nil Nat) (0 : Nat) (0 : Nat) true (@List.nil (Prod Nat Bool)) True))))) := by kernel_rfl
theorem cq_inc (ro : Nat → Option (List Value)) (x1 x2 x3 x4 x5 x6 x7 x8 x9 x10 x11 x12 x13 : Int) (cs : List Cl) (self services i k : Int) (c : Cl) (R : Exit → List AV → AH → Prop) : codeL ro (fun _ => false) (fun _ => none) 8 ((flatten cqL).drop 3) (cqA self services i (.ptr 1 0) (gi k)) (hp [(26, svcQ x1 x2 x3 x4 x5 x6 x7 x8 x9 x10 x11 x12 x13 cs), (47, clC c)] []) (kp [1, 2, 3, 7] R) =
    (some (True ∧ (R Exit.normal [AV.dead, (AV.v (Value.int IntKind.i64 self)), (AV.v (Value.int IntKind.i64 services)), (AV.ptr (0 : Nat) (0 : Nat)), AV.dead, AV.dead, AV.dead, (AV.v (Value.int IntKind.i64 (IntKind.wrap IntKind.i64 (i + (1 : Int))))), AV.dead, AV.dead, AV.dead, AV.dead, AV.dead, AV.dead, AV.dead, AV.dead, AV.dead, AV.dead, AV.dead, AV.dead, AV.dead, AV.dead, AV.dead, AV.dead, AV.dead, AV.dead, AV.dead, AV.dead, AV.dead, AV.dead, AV.dead, AV.dead, AV.dead, AV.dead, AV.dead, AV.dead, AV.dead, AV.dead, AV.dead, AV.dead, AV.dead, AV.dead, AV.dead, AV.dead, AV.dead, AV.dead, AV.dead, AV.dead, AV.dead, AV.dead, AV.dead, AV.dead, AV.dead, AV.dead, AV.dead, AV.dead, AV.dead, AV.dead, AV.dead, AV.dead, AV.dead, AV.dead, AV.dead, AV.dead, AV.dead, AV.dead, AV.dead, AV.dead, AV.dead, AV.dead, AV.dead, AV.dead] (AH.mk [((26 : Nat), [(AV.v (Value.int IntKind.i64 x1)), (AV.v (Value.int IntKind.i64 x2)), (AV.v (Value.int IntKind.i64 x3)), (AV.v (Value.int IntKind.i64 x4)), (AV.v (Value.int IntKind.i64 x5)), (AV.v (Value.int IntKind.i64 x6)), (AV.v (Value.int IntKind.i64 x7)), (AV.v (Value.int IntKind.i64 x8)), (AV.v (Value.int IntKind.i64 x9)), (AV.v (Value.int IntKind.i64 x10)), (AV.v (Value.int IntKind.i64 x11)), (AV.v (Value.int IntKind.i64 x12)), (AV.v (Value.int IntKind.i64 x13)), (AV.lst (4 : Nat) (List.map clA cs) Tip.no)]), ((47 : Nat), [(AV.v (Value.int IntKind.i64 (c).1)), (AV.v (Value.int IntKind.i64 (c).2)), (AV.v (Value.int IntKind.i64 (c).3)), (AV.v (Value.int IntKind.i64 (c).4))])] (@List.nil Nat) (0 : Nat) (0 : Nat) true (@List.nil (Prod Nat Bool)) True)))) := by kernel_rfl
theorem cq_post (ro : Nat → Option (List Value)) (x1 x2 x3 x4 x5 x6 x7 x8 x9 x10 x11 x12 x13 : Int) (cs : List Cl) (self services i : Int) (R : Exit → List AV → AH → Prop) : codeL ro (fun _ => false) (fun _ => none) 8 ((flatten (bodyOf 32)).drop 3) (cqA self services i .dead .dead) (hp [(26, svcQ x1 x2 x3 x4 x5 x6 x7 x8 x9 x10 x11 x12 x13 cs)] []) (kp [6] R) =
    (some (True ∧ (R Exit.ret [AV.dead, AV.dead, AV.dead, AV.dead, AV.dead, AV.dead, (AV.v (Value.bool (decide (((List.length (List.map clA cs)) : Int) ≤ (6 : Int))))), AV.dead, AV.dead, AV.dead, AV.dead, AV.dead, AV.dead, AV.dead, AV.dead, AV.dead, AV.dead, AV.dead, AV.dead, AV.dead, AV.dead, AV.dead, AV.dead, AV.dead, AV.dead, AV.dead, AV.dead, AV.dead, AV.dead, AV.dead, AV.dead, AV.dead, AV.dead, AV.dead, AV.dead, AV.dead, AV.dead, AV.dead, AV.dead, AV.dead, AV.dead, AV.dead, AV.dead, AV.dead, AV.dead, AV.dead, AV.dead, AV.dead, AV.dead, AV.dead, AV.dead, AV.dead, AV.dead, AV.dead, AV.dead, AV.dead, AV.dead, AV.dead, AV.dead, AV.dead, AV.dead, AV.dead, AV.dead, AV.dead, AV.dead, AV.dead, AV.dead, AV.dead, AV.dead, AV.dead, AV.dead, AV.dead] (AH.mk [((26 : Nat), [(AV.v (Value.int IntKind.i64 x1)), (AV.v (Value.int IntKind.i64 x2)), (AV.v (Value.int IntKind.i64 x3)), (AV.v (Value.int IntKind.i64 x4)), (AV.v (Value.int IntKind.i64 x5)), (AV.v (Value.int IntKind.i64 x6)), (AV.v (Value.int IntKind.i64 x7)), (AV.v (Value.int IntKind.i64 x8)), (AV.v (Value.int IntKind.i64 x9)), (AV.v (Value.int IntKind.i64 x10)), (AV.v (Value.int IntKind.i64 x11)), (AV.v (Value.int IntKind.i64 x12)), (AV.v (Value.int IntKind.i64 x13)), (AV.lst (4 : Nat) (List.map clA cs) Tip.no)])] (@List.nil Nat) (0 : Nat) (0 : Nat) true (@List.nil (Prod Nat Bool)) True)))) := by kernel_rfl
end Go.Proofs.YtkienkbaiejdmaaDoor.AE
namespace Go.Proofs.YtkienkbaiejdmaaDoor.AE
open Go.RowKit
def okC (self sv tiers : Int) (c : Cl) : Prop := 0 ≤ c.to ∧ c.to ≤ sv ∧ c.to ≠ self ∧ 0 ≤ c.tier ∧ c.tier ≤ tiers ∧ 1 ≤ c.weight ∧ c.weight ≤ 8 ∧ 1 ≤ c.most ∧ c.most ≤ 65535
instance (self sv tiers : Int) (c : Cl) : Decidable (okC self sv tiers c) := by unfold okC; infer_instance
def okI (self sv tiers : Int) (cs : List Cl) (i : Nat) (h : i < cs.length) : Prop := okC self sv tiers cs[i] ∧ ∀ k, (hk : k < i) → cs[k].to ≠ cs[i].to
instance (self sv tiers : Int) (cs : List Cl) (i : Nat) (h : i < cs.length) : Decidable (okI self sv tiers cs i h) := by unfold okI; infer_instance
/-- The calls may be. -/
def callsP (self sv tiers : Int) (cs : List Cl) : Prop := ∀ i, (h : i < cs.length) → okI self sv tiers cs i h
instance (self sv tiers : Int) (cs : List Cl) : Decidable (callsP self sv tiers cs) := by unfold callsP; infer_instance
def callsB (self services tiers : Int) (cs : List Cl) : Bool := decide (cs.length ≤ 6 ∧ callsP self (IntKind.wrap .i64 (services - 1)) tiers cs)
theorem callsB_no {self services tiers : Int} {cs : List Cl} {i : Nat} (h : i < cs.length) (hn : ¬ okI self (IntKind.wrap .i64 (services - 1)) tiers cs i h) : AV.v (.bool false) = AV.v (.bool (callsB self services tiers cs)) := by
  unfold callsB
  rw [decide_eq_false (fun h2 => hn (h2.2 i h))]
theorem cq_sl : slotsOf 32 = 72 := by kernel_rfl
theorem cq_re : resultsOf 32 = [.tmp 6] := by kernel_rfl
theorem cq_fl : (flatten (bodyOf 32)).drop 2 = .block 0 (.loop cqL) :: (flatten (bodyOf 32)).drop 3 := by kernel_rfl
theorem cq_fl1 : (flatten cqL).drop 2 = .block 1 cqB :: (flatten cqL).drop 3 := by kernel_rfl
theorem cq_fl2 : (flatten cqB).drop 4 = .block 2 (.loop cqY) :: (flatten cqB).drop 5 := by kernel_rfl
set_option maxRecDepth 100000 in
theorem fs_calls {ro : Nat → Option (List Value)} (x1 x2 x3 x4 x5 x6 x7 x8 x9 x10 x11 x12 x13 : Int) (cs : List Cl) (self services : Int) (hl : cs.length ≤ 1000000) : Fs Tryd.prog ro 32 [svcA x1 x2 x3 x4 x5 x6 x7 x8 x9 x10 x11 x12 x13 cs, gi self, gi services] (hp [] []) fun r _ => r = .v (.bool (callsB self services x4 cs)) := by
  refine Fs.of_body (has_fn (by kernel_rfl)) ?_
  rw [cq_sl, cq_re]
  refine Tr.of_flat (Trl.split 2 (Trl.of_code (known_none _) (ne_nil (by kernel_rfl)) (cq_pre ro x1 x2 x3 x4 x5 x6 x7 x8 x9 x10 x11 x12 x13 cs self services _) ⟨trivial, ?_⟩))
  show Trl _ _ ((flatten (bodyOf 32)).drop 2) _ _ _
  rw [cq_fl]
  let S : AH := hp [(26, svcQ x1 x2 x3 x4 x5 x6 x7 x8 x9 x10 x11 x12 x13 cs)] []
  let I : Nat → List AV → AH → Prop := fun m act H => ∃ i : Nat, i ≤ cs.length ∧ m = cs.length - i ∧ act = cqA self services i .dead .dead ∧ H = S ∧ ∀ j, (h : j < cs.length) → j < i → okI self (IntKind.wrap .i64 (services - 1)) x4 cs j h
  refine Tr.block (Tr.loop I ?_ (m := cs.length) ⟨0, Nat.zero_le _, rfl, rfl, rfl, fun j _ h => absurd h (by omega)⟩)
  rintro m act H ⟨i, hi, rfl, rfl, rfl, hI⟩
  have head := fun R => cq_head ro x1 x2 x3 x4 x5 x6 x7 x8 x9 x10 x11 x12 x13 cs self services i R
  rw [cll] at head
  refine Tr.forget 1 0 (Nat.le_refl _) (Nat.le_refl _) (Tr.less (Tr.of_flat (Trl.split 2 (Trl.of_code (known_none _) (ne_nil (by kernel_rfl)) (head _) (holds_bif (fun h1 => ⟨trivial, ?_⟩) fun h1 => ⟨trivial, [1, 2, 3, 7], by kernel_rfl, by kernel_rfl, ?_⟩)))))
  rotate_left
  · have h1 : i = cs.length := by have := of_decide_eq_false h1; omega
    show Trl _ _ ((flatten (bodyOf 32)).drop 3) _ _ _
    have post := fun R => cq_post ro x1 x2 x3 x4 x5 x6 x7 x8 x9 x10 x11 x12 x13 cs self services i R
    refine Trl.of_code (known_none _) (ne_nil (by kernel_rfl)) (post _) ⟨trivial, .inr rfl, trivial, ?_⟩
    rw [cll]
    unfold callsB
    have hP : callsP self (IntKind.wrap .i64 (services - 1)) x4 cs := fun j h => hI j h (by omega)
    by_cases h6 : cs.length ≤ 6
    · rw [decide_eq_true (⟨h6, hP⟩ : cs.length ≤ 6 ∧ callsP self (IntKind.wrap .i64 (services - 1)) x4 cs), decide_eq_true (by omega)]; rfl
    · rw [decide_eq_false (fun h : cs.length ≤ 6 ∧ callsP self (IntKind.wrap .i64 (services - 1)) x4 cs => h6 h.1), decide_eq_false (by omega)]; rfl
  have h1 : i < cs.length := by have := of_decide_eq_true h1; omega
  have e1 := cl_el h1
  have no := fun hn => callsB_no (self := self) (services := services) (tiers := x4) h1 hn
  show Trl _ _ ((flatten cqL).drop 2) _ _ _
  rw [cq_fl1]
  refine Tr.block (Tr.of_flat (Trl.split 4 (Trl.of_code (known_none _) (ne_nil (by kernel_rfl)) (cq_b1 ro x1 x2 x3 x4 x5 x6 x7 x8 x9 x10 x11 x12 x13 cs self services i _) ?_)))
  rw [cl_get h1]
  have bad : ¬ okC self (IntKind.wrap .i64 (services - 1)) x4 cs[i] → AV.v (.bool false) = AV.v (.bool (callsB self services x4 cs)) := fun hn => no (fun h => hn h.1)
  refine holds_bif (fun a1 => holds_bif (fun a2 => ⟨cds_of trivial e1, [1, 2, 3, 6, 7], by kernel_rfl, by kernel_rfl, .inr rfl, trivial, bad fun h => ?_⟩) fun a2 => holds_bif (fun a3 => ⟨cds_of trivial e1, [1, 2, 3, 6, 7], by kernel_rfl, by kernel_rfl, .inr rfl, trivial, bad fun h => ?_⟩) fun a3 => holds_bif (fun a4 => holds_bif (fun a5 => ⟨cds_of trivial e1, [1, 2, 3, 6, 7], by kernel_rfl, by kernel_rfl, .inr rfl, trivial, bad fun h => ?_⟩) fun a5 => holds_bif (fun a6 => holds_bif (fun a7 => ⟨cds_of trivial e1, [1, 2, 3, 6, 7], by kernel_rfl, by kernel_rfl, .inr rfl, trivial, bad fun h => ?_⟩) fun a7 => holds_bif (fun a8 => holds_bif (fun a9 => ⟨cds_of trivial e1, [1, 2, 3, 6, 7], by kernel_rfl, by kernel_rfl, .inr rfl, trivial, bad fun h => ?_⟩) fun a9 => ⟨cds_of trivial e1, ?_⟩) fun a8 => ⟨cds_of trivial e1, [1, 2, 3, 6, 7], by kernel_rfl, by kernel_rfl, .inr rfl, trivial, bad fun h => ?_⟩) fun a6 => ⟨cds_of trivial e1, [1, 2, 3, 6, 7], by kernel_rfl, by kernel_rfl, .inr rfl, trivial, bad fun h => ?_⟩) fun a4 => ⟨cds_of trivial e1, [1, 2, 3, 6, 7], by kernel_rfl, by kernel_rfl, .inr rfl, trivial, bad fun h => ?_⟩) fun a1 => ⟨cds_of trivial e1, [1, 2, 3, 6, 7], by kernel_rfl, by kernel_rfl, .inr rfl, trivial, bad fun h => ?_⟩
  · obtain ⟨p1, p2, p3, p4, p5, p6, p7, p8, p9⟩ := h
    have q : (!decide (cs[i].to ≤ IntKind.wrap .i64 (services - 1))) = true := a2
    simp at q
    omega
  · obtain ⟨p1, p2, p3, p4, p5, p6, p7, p8, p9⟩ := h
    have q : (cs[i].to == self) = true := a3
    simp at q
    exact p3 q
  · obtain ⟨p1, p2, p3, p4, p5, p6, p7, p8, p9⟩ := h
    have q : (!decide (cs[i].tier ≤ x4)) = true := a5
    simp at q
    omega
  · obtain ⟨p1, p2, p3, p4, p5, p6, p7, p8, p9⟩ := h
    have q : (!decide (cs[i].weight ≤ 8)) = true := a7
    simp at q
    omega
  · obtain ⟨p1, p2, p3, p4, p5, p6, p7, p8, p9⟩ := h
    have q : (!decide (cs[i].most ≤ 65535)) = true := a9
    simp at q
    omega
  · have ok : okC self (IntKind.wrap .i64 (services - 1)) x4 cs[i] := by
      have b1 : decide (0 ≤ cs[i].to) = true := a1
      have b2 : (!decide (cs[i].to ≤ IntKind.wrap .i64 (services - 1))) = false := a2
      have b3 : (cs[i].to == self) = false := a3
      have b4 : decide (0 ≤ cs[i].tier) = true := a4
      have b5 : (!decide (cs[i].tier ≤ x4)) = false := a5
      have b6 : decide (1 ≤ cs[i].weight) = true := a6
      have b7 : (!decide (cs[i].weight ≤ 8)) = false := a7
      have b8 : decide (1 ≤ cs[i].most) = true := a8
      have b9 : (!decide (cs[i].most ≤ 65535)) = false := a9
      simp at b1 b2 b3 b4 b5 b6 b7 b8 b9
      exact ⟨b1, b2, b3, b4, b5, b6, b7, b8, b9⟩
    show Trl _ _ ((flatten cqB).drop 4) _ _ _
    rw [cq_fl2]
    let J : Nat → List AV → AH → Prop := fun t act H => ∃ k : Nat, k ≤ i ∧ t = i - k ∧ act = cqA self services i (.ptr 1 0) (gi k) ∧ H = hp [(26, svcQ x1 x2 x3 x4 x5 x6 x7 x8 x9 x10 x11 x12 x13 cs), (47, clC cs[i])] [] ∧ ∀ j, (h : j < cs.length) → j < k → cs[j].to ≠ cs[i].to
    refine Tr.block (Tr.loop J ?_ (m := i) ⟨0, Nat.zero_le _, rfl, rfl, rfl, fun j _ h => absurd h (by omega)⟩)
    rintro _ _ _ ⟨k, hk, rfl, rfl, rfl, hJ⟩
    have y := fun R => cq_y ro x1 x2 x3 x4 x5 x6 x7 x8 x9 x10 x11 x12 x13 cs self services i k cs[i] R
    rw [inc64 k (by omega)] at y
    refine Tr.of_code (known_none _) (y _) (holds_bif (fun b1 => ?_) fun b1 => ⟨trivial, ?_⟩)
    · have hki : k < i := by have := of_decide_eq_true b1; omega
      have hkl : k < cs.length := by omega
      rw [cl_get hkl]
      refine holds_bif (fun b2 => ⟨cds_of trivial (cl_el hkl), [1, 2, 3, 6, 7], by kernel_rfl, by kernel_rfl, .inr rfl, trivial, no fun h => ?_⟩) fun b2 => ⟨cds_of trivial (cl_el hkl), i - (k + 1), by omega, k + 1, hki, rfl, rfl, rfl, fun j hj hjk => ?_⟩
      · have b2 : (cs[k].to == cs[i].to) = true := b2
        exact h.2 k hki (eq_of_beq b2)
      · have b2 : (cs[k].to == cs[i].to) = false := b2
        by_cases e : j = k
        · subst e
          intro h
          rw [h, beq_self_eq_true] at b2; cases b2
        · exact hJ j hj (by omega)
    · have hki : k = i := by have := of_decide_eq_false b1; omega
      subst hki
      show Trl _ _ ((flatten cqL).drop 3) _ _ _
      have inc := fun R => cq_inc ro x1 x2 x3 x4 x5 x6 x7 x8 x9 x10 x11 x12 x13 cs self services k k cs[k] R
      rw [inc64 k (by omega)] at inc
      refine Trl.of_code (known_none _) (ne_nil (by kernel_rfl)) (inc _) ⟨trivial, [1, 2, 3, 7], by kernel_rfl, by kernel_rfl, cs.length - (k + 1), by omega, k + 1, h1, rfl, rfl, rfl, fun j hj hjk => ?_⟩
      by_cases e : j = k
      · subst e
        exact ⟨ok, fun m hm => hJ m (by omega) hm⟩
      · exact hI j hj (by omega)
  · obtain ⟨p1, p2, p3, p4, p5, p6, p7, p8, p9⟩ := h
    have q : decide (1 ≤ cs[i].most) = false := a8
    simp at q
    omega
  · obtain ⟨p1, p2, p3, p4, p5, p6, p7, p8, p9⟩ := h
    have q : decide (1 ≤ cs[i].weight) = false := a6
    simp at q
    omega
  · obtain ⟨p1, p2, p3, p4, p5, p6, p7, p8, p9⟩ := h
    have q : decide (0 ≤ cs[i].tier) = false := a4
    simp at q
    omega
  · obtain ⟨p1, p2, p3, p4, p5, p6, p7, p8, p9⟩ := h
    have q : decide (0 ≤ cs[i].to) = false := a1
    simp at q
    omega
end Go.Proofs.YtkienkbaiejdmaaDoor.AE
namespace Go.Proofs.YtkienkbaiejdmaaDoor.AE
open Go.RowKit
def kn7 (a b c d e f g : Int) : Value := .agg #[.int .i64 a, .int .i64 b, .int .i64 c, .int .i64 d, .int .i64 e, .int .i64 f, .int .i64 g]
theorem kc_check (ro : Nat → Option (List Value)) (a b c d e f g n : Int) (Φ : AV → Prop) : callK ro (fun _ => false) (fun _ => none) 8 28 [.v (kn7 a b c d e f g), .v (.int .i64 n)] (hp [] []) (fun r h => some (h.cd ∧ Φ r)) =
    (bif (decide (n < (1 : Int))) then (some (True ∧ (Φ (AV.v (Value.int IntKind.i64 (10 : Int)))))) else (bif (decide ((128 : Int) < n)) then (some (True ∧ (Φ (AV.v (Value.int IntKind.i64 (10 : Int)))))) else (bif (decide (a < (0 : Int))) then (some (True ∧ (Φ (AV.v (Value.int IntKind.i64 (10 : Int)))))) else (bif (decide (b < a)) then (some (True ∧ (Φ (AV.v (Value.int IntKind.i64 (10 : Int)))))) else (bif (decide (b < a)) then (some (True ∧ (Φ (AV.v (Value.int IntKind.i64 (10 : Int)))))) else (bif (decide ((10000 : Int) < b)) then (some (True ∧ (Φ (AV.v (Value.int IntKind.i64 (10 : Int)))))) else (bif (decide (c < (1 : Int))) then (some (True ∧ (Φ (AV.v (Value.int IntKind.i64 (10 : Int)))))) else (bif (decide ((99 : Int) < c)) then (some (True ∧ (Φ (AV.v (Value.int IntKind.i64 (10 : Int)))))) else (bif (decide (d < (1 : Int))) then (some (True ∧ (Φ (AV.v (Value.int IntKind.i64 (10 : Int)))))) else (bif (decide ((100 : Int) < d)) then (some (True ∧ (Φ (AV.v (Value.int IntKind.i64 (10 : Int)))))) else (bif (decide (e < (0 : Int))) then (some (True ∧ (Φ (AV.v (Value.int IntKind.i64 (10 : Int)))))) else (bif (decide (n < e)) then (some (True ∧ (Φ (AV.v (Value.int IntKind.i64 (10 : Int)))))) else (bif (decide (f < (1 : Int))) then (some (True ∧ (Φ (AV.v (Value.int IntKind.i64 (10 : Int)))))) else (bif (decide ((32 : Int) < f)) then (some (True ∧ (Φ (AV.v (Value.int IntKind.i64 (10 : Int)))))) else (bif (decide (g < (1 : Int))) then (some (True ∧ (Φ (AV.v (Value.int IntKind.i64 (10 : Int)))))) else (bif (decide ((32 : Int) < g)) then (some (True ∧ (Φ (AV.v (Value.int IntKind.i64 (10 : Int)))))) else (some (True ∧ (Φ (AV.v (Value.int IntKind.i64 (0 : Int)))))))))))))))))))))) := by kernel_rfl
theorem kc_rcheck (ro : Nat → Option (List Value)) (a b c d e f g n : Int) (Φ : AV → Prop) : callK ro (fun _ => false) (fun _ => none) 8 31 [.v (kn7 a b c d e f g), .v (.int .i64 n)] (hp [] []) (fun r h => some (h.cd ∧ Φ r)) =
    (bif (decide (n < (1 : Int))) then (some (True ∧ (Φ (AV.v (Value.int IntKind.i64 (10 : Int)))))) else (bif (decide ((128 : Int) < n)) then (some (True ∧ (Φ (AV.v (Value.int IntKind.i64 (10 : Int)))))) else (bif (decide (a < (0 : Int))) then (some (True ∧ (Φ (AV.v (Value.int IntKind.i64 (10 : Int)))))) else (bif (decide (b < a)) then (some (True ∧ (Φ (AV.v (Value.int IntKind.i64 (10 : Int)))))) else (bif (decide ((10000 : Int) < b)) then (some (True ∧ (Φ (AV.v (Value.int IntKind.i64 (10 : Int)))))) else (bif (decide (c < (1 : Int))) then (some (True ∧ (Φ (AV.v (Value.int IntKind.i64 (10 : Int)))))) else (bif (decide ((99 : Int) < c)) then (some (True ∧ (Φ (AV.v (Value.int IntKind.i64 (10 : Int)))))) else (bif (decide (d < (1 : Int))) then (some (True ∧ (Φ (AV.v (Value.int IntKind.i64 (10 : Int)))))) else (bif (decide ((100 : Int) < d)) then (some (True ∧ (Φ (AV.v (Value.int IntKind.i64 (10 : Int)))))) else (bif (decide (e < (0 : Int))) then (some (True ∧ (Φ (AV.v (Value.int IntKind.i64 (10 : Int)))))) else (bif (decide (n < e)) then (some (True ∧ (Φ (AV.v (Value.int IntKind.i64 (10 : Int)))))) else (bif (decide (f < (1 : Int))) then (some (True ∧ (Φ (AV.v (Value.int IntKind.i64 (10 : Int)))))) else (bif (decide ((32 : Int) < f)) then (some (True ∧ (Φ (AV.v (Value.int IntKind.i64 (10 : Int)))))) else (bif (decide (g < (1 : Int))) then (some (True ∧ (Φ (AV.v (Value.int IntKind.i64 (10 : Int)))))) else (bif (decide ((32 : Int) < g)) then (some (True ∧ (Φ (AV.v (Value.int IntKind.i64 (10 : Int)))))) else (some (True ∧ (Φ (AV.v (Value.int IntKind.i64 (0 : Int))))))))))))))))))))) := by kernel_rfl
end Go.Proofs.YtkienkbaiejdmaaDoor.AE
namespace Go.Proofs.YtkienkbaiejdmaaDoor.AE
open Go.RowKit
def okK (a b c d e f g n : Int) : Prop := 1 ≤ n ∧ n ≤ 128 ∧ 0 ≤ a ∧ a ≤ b ∧ b ≤ 10000 ∧ 1 ≤ c ∧ c ≤ 99 ∧ 1 ≤ d ∧ d ≤ 100 ∧ 0 ≤ e ∧ e ≤ n ∧ 1 ≤ f ∧ f ≤ 32 ∧ 1 ≤ g ∧ g ≤ 32
instance (a b c d e f g n : Int) : Decidable (okK a b c d e f g n) := by unfold okK; infer_instance
def kcV (a b c d e f g n : Int) : Int := if okK a b c d e f g n then 0 else 10
theorem kc_no {a b c d e f g n : Int} (h : ¬ okK a b c d e f g n) : AV.v (.int .i64 10) = .v (.int .i64 (kcV a b c d e f g n)) := by unfold kcV; rw [if_neg h]
theorem kc_yes {a b c d e f g n : Int} (h : okK a b c d e f g n) : AV.v (.int .i64 0) = .v (.int .i64 (kcV a b c d e f g n)) := by unfold kcV; rw [if_pos h]
theorem fs_kcheck {ro : Nat → Option (List Value)} (a b c d e f g n : Int) : Fs Tryd.prog ro 28 [.v (kn7 a b c d e f g), .v (.int .i64 n)] (hp [] []) fun r _ => r = .v (.int .i64 (kcV a b c d e f g n)) := by
  refine Fs.of_call (known_none _) (kc_check ro a b c d e f g n fun r => r = .v (.int .i64 (kcV a b c d e f g n))) ?_
  repeat' (with_reducible refine holds_bif ?_ ?_ <;> intro h <;> simp only [decide_eq_true_eq, decide_eq_false_iff_not] at h)
  all_goals refine ⟨trivial, ?_⟩
  all_goals first
    | exact kc_no (by unfold okK; omega)
    | exact kc_yes (by unfold okK; omega)
theorem fs_krcheck {ro : Nat → Option (List Value)} (a b c d e f g n : Int) : Fs Tryd.prog ro 31 [.v (kn7 a b c d e f g), .v (.int .i64 n)] (hp [] []) fun r _ => r = .v (.int .i64 (kcV a b c d e f g n)) := by
  refine Fs.of_call (known_none _) (kc_rcheck ro a b c d e f g n fun r => r = .v (.int .i64 (kcV a b c d e f g n))) ?_
  repeat' (with_reducible refine holds_bif ?_ ?_ <;> intro h <;> simp only [decide_eq_true_eq, decide_eq_false_iff_not] at h)
  all_goals refine ⟨trivial, ?_⟩
  all_goals first
    | exact kc_no (by unfold okK; omega)
    | exact kc_yes (by unfold okK; omega)
end Go.Proofs.YtkienkbaiejdmaaDoor.AE
namespace Go.Proofs.YtkienkbaiejdmaaDoor.AE
open Go.RowKit
def ixO (IX : Int → List AV → Int) (OK : TypeId → List AV → Bool) : ObjS where
  pick := fun args _ => match args with
    | [_, .fn _ _ (.ptr id _ :: _)] => some [id]
    | _ => none
  mask := [true]
  maskB := [true]
  spec := fun args bs => match args with
    | [.lst 4 xs .no, .fn (.func 56) [] [.ptr 0 0]] => match bs with
      | [(t, [.v (.int .i64 a), .v (.int .i64 b), .v (.int .i64 c), .v (.int .i64 d)])] => some (.v (.int .i64 (IX a xs)), [(t, [.v (.int .i64 a), .v (.int .i64 b), .v (.int .i64 c), .v (.int .i64 d)])], OK t xs)
      | _ => none
    | _ => none
def ixN (a : Int) (xs : List AV) : Int := match cls? xs with
  | some l => ixX a 0 l
  | none => 0
def ixK (t : TypeId) (xs : List AV) : Bool := decide (t = 47) && (match cls? xs with
  | some l => decide (l.length ≤ 1000000)
  | none => false)
theorem ixN_of (a : Int) (l : List Cl) : ixN a (l.map clA) = ixX a 0 l := by unfold ixN; rw [cls_map]
theorem ixK_of (l : List Cl) (h : l.length ≤ 1000000) : ixK 47 (l.map clA) = true := by
  unfold ixK; rw [cls_map]
  exact Bool.and_eq_true_iff.2 ⟨decide_eq_true rfl, decide_eq_true h⟩
theorem ixo_ok {ro : Nat → Option (List Value)} : ∀ args H r H', obj? (ixO ixN ixK) args H = some (r, H') → HSound1 Tryd.prog ro 64 args H r H' := by
  refine obj_ok (has_fn (by kernel_rfl)) fun args bs r bs2 h => ?_
  unfold ixO at h
  simp only at h
  split at h
  · rename_i xs
    split at h
    · rename_i t a b c d
      simp only [Option.some.injEq, Prod.mk.injEq] at h
      obtain ⟨rfl, rfl, hok⟩ := h
      unfold ixK at hok
      rw [Bool.and_eq_true] at hok
      obtain ⟨h1, h2⟩ := hok
      obtain rfl := of_decide_eq_true h1
      split at h2
      · rename_i l hl
        obtain rfl := cls_eq hl
        rw [ixN_of]
        exact (fs_index l ⟨a, b, c, d⟩ (of_decide_eq_true h2)).mono fun r' H' ⟨q1, more, q2⟩ => ⟨.inl q1, [], more, q2⟩
      · cases h2
    · cases h
  · cases h
noncomputable def prI (IX : Int → List AV → Int) (OK : TypeId → List AV → Bool) : FuncId → Option (List AV → AH → Ans) := fun g => match g with
  | 64 => some (obj? (ixO IX OK))
  | _ => none
theorem knownI {ro : Nat → Option (List Value)} : Known ro (prI ixN ixK) := by
  intro g p h
  unfold prI at h
  split at h
  · cases h; exact ixo_ok
  · cases h
def acA (self services : Int) (cs : List Cl) (m i : Int) : List AV := [.dead, gi self, gi services, .ptr 0 0, .dead, .dead, .dead, .dead, .dead, .dead, .dead, .dead, .dead, .dead, .lst 4 (cs.map clA) .no, gi m, gi i] ++ List.replicate 43 .dead
theorem ac_pre (ro : Nat → Option (List Value)) (IX : Int → List AV → Int) (OK : TypeId → List AV → Bool) (x1 x2 x3 x4 x5 x6 x7 x8 x9 x10 x11 x12 x13 : Int) (cs : List Cl) (self services : Int) (R : Exit → List AV → AH → Prop) : codeL ro (fun _ => false) (prI IX OK) 8 ((flatten (bodyOf 29)).take 4) ([svcA x1 x2 x3 x4 x5 x6 x7 x8 x9 x10 x11 x12 x13 cs, gi self, gi services] ++ List.replicate 57 (.v undef)) (hp [] []) (kp [1, 2, 3, 6, 14, 15, 16] R) =
    (bif (decide ((6 : Int) < ((List.length (List.map clA cs)) : Int))) then (some (True ∧ (R Exit.ret [AV.dead, (AV.v (Value.int IntKind.i64 self)), (AV.v (Value.int IntKind.i64 services)), (AV.ptr (0 : Nat) (0 : Nat)), AV.dead, AV.dead, (AV.v (Value.bool false)), AV.dead, AV.dead, AV.dead, AV.dead, AV.dead, AV.dead, AV.dead, (AV.v (Value.tuple (Array.mk (@List.nil Go.Value)))), (AV.v (Value.tuple (Array.mk (@List.nil Go.Value)))), (AV.v (Value.tuple (Array.mk (@List.nil Go.Value)))), AV.dead, AV.dead, AV.dead, AV.dead, AV.dead, AV.dead, AV.dead, AV.dead, AV.dead, AV.dead, AV.dead, AV.dead, AV.dead, AV.dead, AV.dead, AV.dead, AV.dead, AV.dead, AV.dead, AV.dead, AV.dead, AV.dead, AV.dead, AV.dead, AV.dead, AV.dead, AV.dead, AV.dead, AV.dead, AV.dead, AV.dead, AV.dead, AV.dead, AV.dead, AV.dead, AV.dead, AV.dead, AV.dead, AV.dead, AV.dead, AV.dead, AV.dead, AV.dead] (AH.mk [((26 : Nat), [(AV.v (Value.int IntKind.i64 x1)), (AV.v (Value.int IntKind.i64 x2)), (AV.v (Value.int IntKind.i64 x3)), (AV.v (Value.int IntKind.i64 x4)), (AV.v (Value.int IntKind.i64 x5)), (AV.v (Value.int IntKind.i64 x6)), (AV.v (Value.int IntKind.i64 x7)), (AV.v (Value.int IntKind.i64 x8)), (AV.v (Value.int IntKind.i64 x9)), (AV.v (Value.int IntKind.i64 x10)), (AV.v (Value.int IntKind.i64 x11)), (AV.v (Value.int IntKind.i64 x12)), (AV.v (Value.int IntKind.i64 x13)), (AV.lst (4 : Nat) (List.map clA cs) Tip.no)])] (@List.nil Nat) (0 : Nat) (0 : Nat) true (@List.nil (Prod Nat Bool)) True)))) else (some (True ∧ (R Exit.normal [AV.dead, (AV.v (Value.int IntKind.i64 self)), (AV.v (Value.int IntKind.i64 services)), (AV.ptr (0 : Nat) (0 : Nat)), AV.dead, AV.dead, (AV.v (Value.bool false)), AV.dead, AV.dead, AV.dead, AV.dead, AV.dead, AV.dead, AV.dead, (AV.lst (4 : Nat) (List.map clA cs) Tip.no), (AV.v (Value.int IntKind.i64 ((List.length (List.map clA cs)) : Int))), (AV.v (Value.int IntKind.i64 (0 : Int))), AV.dead, AV.dead, AV.dead, AV.dead, AV.dead, AV.dead, AV.dead, AV.dead, AV.dead, AV.dead, AV.dead, AV.dead, AV.dead, AV.dead, AV.dead, AV.dead, AV.dead, AV.dead, AV.dead, AV.dead, AV.dead, AV.dead, AV.dead, AV.dead, AV.dead, AV.dead, AV.dead, AV.dead, AV.dead, AV.dead, AV.dead, AV.dead, AV.dead, AV.dead, AV.dead, AV.dead, AV.dead, AV.dead, AV.dead, AV.dead, AV.dead, AV.dead, AV.dead] (AH.mk [((26 : Nat), [(AV.v (Value.int IntKind.i64 x1)), (AV.v (Value.int IntKind.i64 x2)), (AV.v (Value.int IntKind.i64 x3)), (AV.v (Value.int IntKind.i64 x4)), (AV.v (Value.int IntKind.i64 x5)), (AV.v (Value.int IntKind.i64 x6)), (AV.v (Value.int IntKind.i64 x7)), (AV.v (Value.int IntKind.i64 x8)), (AV.v (Value.int IntKind.i64 x9)), (AV.v (Value.int IntKind.i64 x10)), (AV.v (Value.int IntKind.i64 x11)), (AV.v (Value.int IntKind.i64 x12)), (AV.v (Value.int IntKind.i64 x13)), (AV.lst (4 : Nat) (List.map clA cs) Tip.no)])] (@List.nil Nat) (0 : Nat) (0 : Nat) true (@List.nil (Prod Nat Bool)) True))))) := by kernel_rfl
theorem ac_in (ro : Nat → Option (List Value)) (IX : Int → List AV → Int) (OK : TypeId → List AV → Bool) (x1 x2 x3 x4 x5 x6 x7 x8 x9 x10 x11 x12 x13 : Int) (cs : List Cl) (self services m i : Int) (R : Exit → List AV → AH → Prop) : code ro (fun _ => false) (prI IX OK) 8 (sub (bodyOf 29) [1, 1, 0, 1, 0, 0]) (acA self services cs m i) (hp [(26, svcQ x1 x2 x3 x4 x5 x6 x7 x8 x9 x10 x11 x12 x13 cs)] []) (kp [1, 2, 3, 6, 14, 15, 16] R) =
    (bif (decide (i < m)) then (bif (decide ((0 : Int) ≤ (exInt (List.getD (AV.cells (List.getD (List.map clA cs) (Int.toNat i) AV.dead)) (0 : Nat) AV.dead)))) then (bif (!(decide ((exInt (List.getD (AV.cells (List.getD (List.map clA cs) (Int.toNat i) AV.dead)) (0 : Nat) AV.dead)) ≤ (IntKind.wrap IntKind.i64 (services - (1 : Int)))))) then (some ((cds True (elemB Tryd.prog (47 : Nat) (List.map clA cs) i) (((0 : Int) ≤ i) ∧ (((List.map clA cs)[(Int.toNat i)]?) = (some (AV.v (Value.agg #[(Value.int IntKind.i64 (exInt (List.getD (AV.cells (List.getD (List.map clA cs) (Int.toNat i) AV.dead)) (0 : Nat) AV.dead))), (Value.int IntKind.i64 (exInt (List.getD (AV.cells (List.getD (List.map clA cs) (Int.toNat i) AV.dead)) (1 : Nat) AV.dead))), (Value.int IntKind.i64 (exInt (List.getD (AV.cells (List.getD (List.map clA cs) (Int.toNat i) AV.dead)) (2 : Nat) AV.dead))), (Value.int IntKind.i64 (exInt (List.getD (AV.cells (List.getD (List.map clA cs) (Int.toNat i) AV.dead)) (3 : Nat) AV.dead)))])))))) ∧ (R Exit.ret [AV.dead, (AV.v (Value.int IntKind.i64 self)), (AV.v (Value.int IntKind.i64 services)), (AV.ptr (0 : Nat) (0 : Nat)), AV.dead, AV.dead, (AV.v (Value.bool false)), AV.dead, AV.dead, AV.dead, AV.dead, AV.dead, AV.dead, AV.dead, (AV.lst (4 : Nat) (List.map clA cs) Tip.no), (AV.v (Value.int IntKind.i64 m)), (AV.v (Value.int IntKind.i64 i)), AV.dead, AV.dead, AV.dead, AV.dead, AV.dead, AV.dead, AV.dead, AV.dead, AV.dead, AV.dead, AV.dead, AV.dead, AV.dead, AV.dead, AV.dead, AV.dead, AV.dead, AV.dead, AV.dead, AV.dead, AV.dead, AV.dead, AV.dead, AV.dead, AV.dead, AV.dead, AV.dead, AV.dead, AV.dead, AV.dead, AV.dead, AV.dead, AV.dead, AV.dead, AV.dead, AV.dead, AV.dead, AV.dead, AV.dead, AV.dead, AV.dead, AV.dead, AV.dead] (AH.mk [((26 : Nat), [(AV.v (Value.int IntKind.i64 x1)), (AV.v (Value.int IntKind.i64 x2)), (AV.v (Value.int IntKind.i64 x3)), (AV.v (Value.int IntKind.i64 x4)), (AV.v (Value.int IntKind.i64 x5)), (AV.v (Value.int IntKind.i64 x6)), (AV.v (Value.int IntKind.i64 x7)), (AV.v (Value.int IntKind.i64 x8)), (AV.v (Value.int IntKind.i64 x9)), (AV.v (Value.int IntKind.i64 x10)), (AV.v (Value.int IntKind.i64 x11)), (AV.v (Value.int IntKind.i64 x12)), (AV.v (Value.int IntKind.i64 x13)), (AV.lst (4 : Nat) (List.map clA cs) Tip.no)]), ((47 : Nat), [(AV.v (Value.int IntKind.i64 (exInt (List.getD (AV.cells (List.getD (List.map clA cs) (Int.toNat i) AV.dead)) (0 : Nat) AV.dead)))), (AV.v (Value.int IntKind.i64 (exInt (List.getD (AV.cells (List.getD (List.map clA cs) (Int.toNat i) AV.dead)) (1 : Nat) AV.dead)))), (AV.v (Value.int IntKind.i64 (exInt (List.getD (AV.cells (List.getD (List.map clA cs) (Int.toNat i) AV.dead)) (2 : Nat) AV.dead)))), (AV.v (Value.int IntKind.i64 (exInt (List.getD (AV.cells (List.getD (List.map clA cs) (Int.toNat i) AV.dead)) (3 : Nat) AV.dead))))])] (@List.nil Nat) (0 : Nat) (0 : Nat) true (@List.nil (Prod Nat Bool)) True)))) else (bif ((exInt (List.getD (AV.cells (List.getD (List.map clA cs) (Int.toNat i) AV.dead)) (0 : Nat) AV.dead)) == self) then (some ((cds True (elemB Tryd.prog (47 : Nat) (List.map clA cs) i) (((0 : Int) ≤ i) ∧ (((List.map clA cs)[(Int.toNat i)]?) = (some (AV.v (Value.agg #[(Value.int IntKind.i64 (exInt (List.getD (AV.cells (List.getD (List.map clA cs) (Int.toNat i) AV.dead)) (0 : Nat) AV.dead))), (Value.int IntKind.i64 (exInt (List.getD (AV.cells (List.getD (List.map clA cs) (Int.toNat i) AV.dead)) (1 : Nat) AV.dead))), (Value.int IntKind.i64 (exInt (List.getD (AV.cells (List.getD (List.map clA cs) (Int.toNat i) AV.dead)) (2 : Nat) AV.dead))), (Value.int IntKind.i64 (exInt (List.getD (AV.cells (List.getD (List.map clA cs) (Int.toNat i) AV.dead)) (3 : Nat) AV.dead)))])))))) ∧ (R Exit.ret [AV.dead, (AV.v (Value.int IntKind.i64 self)), (AV.v (Value.int IntKind.i64 services)), (AV.ptr (0 : Nat) (0 : Nat)), AV.dead, AV.dead, (AV.v (Value.bool false)), AV.dead, AV.dead, AV.dead, AV.dead, AV.dead, AV.dead, AV.dead, (AV.lst (4 : Nat) (List.map clA cs) Tip.no), (AV.v (Value.int IntKind.i64 m)), (AV.v (Value.int IntKind.i64 i)), AV.dead, AV.dead, AV.dead, AV.dead, AV.dead, AV.dead, AV.dead, AV.dead, AV.dead, AV.dead, AV.dead, AV.dead, AV.dead, AV.dead, AV.dead, AV.dead, AV.dead, AV.dead, AV.dead, AV.dead, AV.dead, AV.dead, AV.dead, AV.dead, AV.dead, AV.dead, AV.dead, AV.dead, AV.dead, AV.dead, AV.dead, AV.dead, AV.dead, AV.dead, AV.dead, AV.dead, AV.dead, AV.dead, AV.dead, AV.dead, AV.dead, AV.dead, AV.dead] (AH.mk [((26 : Nat), [(AV.v (Value.int IntKind.i64 x1)), (AV.v (Value.int IntKind.i64 x2)), (AV.v (Value.int IntKind.i64 x3)), (AV.v (Value.int IntKind.i64 x4)), (AV.v (Value.int IntKind.i64 x5)), (AV.v (Value.int IntKind.i64 x6)), (AV.v (Value.int IntKind.i64 x7)), (AV.v (Value.int IntKind.i64 x8)), (AV.v (Value.int IntKind.i64 x9)), (AV.v (Value.int IntKind.i64 x10)), (AV.v (Value.int IntKind.i64 x11)), (AV.v (Value.int IntKind.i64 x12)), (AV.v (Value.int IntKind.i64 x13)), (AV.lst (4 : Nat) (List.map clA cs) Tip.no)]), ((47 : Nat), [(AV.v (Value.int IntKind.i64 (exInt (List.getD (AV.cells (List.getD (List.map clA cs) (Int.toNat i) AV.dead)) (0 : Nat) AV.dead)))), (AV.v (Value.int IntKind.i64 (exInt (List.getD (AV.cells (List.getD (List.map clA cs) (Int.toNat i) AV.dead)) (1 : Nat) AV.dead)))), (AV.v (Value.int IntKind.i64 (exInt (List.getD (AV.cells (List.getD (List.map clA cs) (Int.toNat i) AV.dead)) (2 : Nat) AV.dead)))), (AV.v (Value.int IntKind.i64 (exInt (List.getD (AV.cells (List.getD (List.map clA cs) (Int.toNat i) AV.dead)) (3 : Nat) AV.dead))))])] (@List.nil Nat) (0 : Nat) (0 : Nat) true (@List.nil (Prod Nat Bool)) True)))) else (bif (decide ((0 : Int) ≤ (exInt (List.getD (AV.cells (List.getD (List.map clA cs) (Int.toNat i) AV.dead)) (1 : Nat) AV.dead)))) then (bif (!(decide ((exInt (List.getD (AV.cells (List.getD (List.map clA cs) (Int.toNat i) AV.dead)) (1 : Nat) AV.dead)) ≤ x4))) then (some ((cds True (elemB Tryd.prog (47 : Nat) (List.map clA cs) i) (((0 : Int) ≤ i) ∧ (((List.map clA cs)[(Int.toNat i)]?) = (some (AV.v (Value.agg #[(Value.int IntKind.i64 (exInt (List.getD (AV.cells (List.getD (List.map clA cs) (Int.toNat i) AV.dead)) (0 : Nat) AV.dead))), (Value.int IntKind.i64 (exInt (List.getD (AV.cells (List.getD (List.map clA cs) (Int.toNat i) AV.dead)) (1 : Nat) AV.dead))), (Value.int IntKind.i64 (exInt (List.getD (AV.cells (List.getD (List.map clA cs) (Int.toNat i) AV.dead)) (2 : Nat) AV.dead))), (Value.int IntKind.i64 (exInt (List.getD (AV.cells (List.getD (List.map clA cs) (Int.toNat i) AV.dead)) (3 : Nat) AV.dead)))])))))) ∧ (R Exit.ret [AV.dead, (AV.v (Value.int IntKind.i64 self)), (AV.v (Value.int IntKind.i64 services)), (AV.ptr (0 : Nat) (0 : Nat)), AV.dead, AV.dead, (AV.v (Value.bool false)), AV.dead, AV.dead, AV.dead, AV.dead, AV.dead, AV.dead, AV.dead, (AV.lst (4 : Nat) (List.map clA cs) Tip.no), (AV.v (Value.int IntKind.i64 m)), (AV.v (Value.int IntKind.i64 i)), AV.dead, AV.dead, AV.dead, AV.dead, AV.dead, AV.dead, AV.dead, AV.dead, AV.dead, AV.dead, AV.dead, AV.dead, AV.dead, AV.dead, AV.dead, AV.dead, AV.dead, AV.dead, AV.dead, AV.dead, AV.dead, AV.dead, AV.dead, AV.dead, AV.dead, AV.dead, AV.dead, AV.dead, AV.dead, AV.dead, AV.dead, AV.dead, AV.dead, AV.dead, AV.dead, AV.dead, AV.dead, AV.dead, AV.dead, AV.dead, AV.dead, AV.dead, AV.dead] (AH.mk [((26 : Nat), [(AV.v (Value.int IntKind.i64 x1)), (AV.v (Value.int IntKind.i64 x2)), (AV.v (Value.int IntKind.i64 x3)), (AV.v (Value.int IntKind.i64 x4)), (AV.v (Value.int IntKind.i64 x5)), (AV.v (Value.int IntKind.i64 x6)), (AV.v (Value.int IntKind.i64 x7)), (AV.v (Value.int IntKind.i64 x8)), (AV.v (Value.int IntKind.i64 x9)), (AV.v (Value.int IntKind.i64 x10)), (AV.v (Value.int IntKind.i64 x11)), (AV.v (Value.int IntKind.i64 x12)), (AV.v (Value.int IntKind.i64 x13)), (AV.lst (4 : Nat) (List.map clA cs) Tip.no)]), ((47 : Nat), [(AV.v (Value.int IntKind.i64 (exInt (List.getD (AV.cells (List.getD (List.map clA cs) (Int.toNat i) AV.dead)) (0 : Nat) AV.dead)))), (AV.v (Value.int IntKind.i64 (exInt (List.getD (AV.cells (List.getD (List.map clA cs) (Int.toNat i) AV.dead)) (1 : Nat) AV.dead)))), (AV.v (Value.int IntKind.i64 (exInt (List.getD (AV.cells (List.getD (List.map clA cs) (Int.toNat i) AV.dead)) (2 : Nat) AV.dead)))), (AV.v (Value.int IntKind.i64 (exInt (List.getD (AV.cells (List.getD (List.map clA cs) (Int.toNat i) AV.dead)) (3 : Nat) AV.dead))))])] (@List.nil Nat) (0 : Nat) (0 : Nat) true (@List.nil (Prod Nat Bool)) True)))) else (bif (decide ((1 : Int) ≤ (exInt (List.getD (AV.cells (List.getD (List.map clA cs) (Int.toNat i) AV.dead)) (2 : Nat) AV.dead)))) then (bif (!(decide ((exInt (List.getD (AV.cells (List.getD (List.map clA cs) (Int.toNat i) AV.dead)) (2 : Nat) AV.dead)) ≤ (8 : Int)))) then (some ((cds True (elemB Tryd.prog (47 : Nat) (List.map clA cs) i) (((0 : Int) ≤ i) ∧ (((List.map clA cs)[(Int.toNat i)]?) = (some (AV.v (Value.agg #[(Value.int IntKind.i64 (exInt (List.getD (AV.cells (List.getD (List.map clA cs) (Int.toNat i) AV.dead)) (0 : Nat) AV.dead))), (Value.int IntKind.i64 (exInt (List.getD (AV.cells (List.getD (List.map clA cs) (Int.toNat i) AV.dead)) (1 : Nat) AV.dead))), (Value.int IntKind.i64 (exInt (List.getD (AV.cells (List.getD (List.map clA cs) (Int.toNat i) AV.dead)) (2 : Nat) AV.dead))), (Value.int IntKind.i64 (exInt (List.getD (AV.cells (List.getD (List.map clA cs) (Int.toNat i) AV.dead)) (3 : Nat) AV.dead)))])))))) ∧ (R Exit.ret [AV.dead, (AV.v (Value.int IntKind.i64 self)), (AV.v (Value.int IntKind.i64 services)), (AV.ptr (0 : Nat) (0 : Nat)), AV.dead, AV.dead, (AV.v (Value.bool false)), AV.dead, AV.dead, AV.dead, AV.dead, AV.dead, AV.dead, AV.dead, (AV.lst (4 : Nat) (List.map clA cs) Tip.no), (AV.v (Value.int IntKind.i64 m)), (AV.v (Value.int IntKind.i64 i)), AV.dead, AV.dead, AV.dead, AV.dead, AV.dead, AV.dead, AV.dead, AV.dead, AV.dead, AV.dead, AV.dead, AV.dead, AV.dead, AV.dead, AV.dead, AV.dead, AV.dead, AV.dead, AV.dead, AV.dead, AV.dead, AV.dead, AV.dead, AV.dead, AV.dead, AV.dead, AV.dead, AV.dead, AV.dead, AV.dead, AV.dead, AV.dead, AV.dead, AV.dead, AV.dead, AV.dead, AV.dead, AV.dead, AV.dead, AV.dead, AV.dead, AV.dead, AV.dead] (AH.mk [((26 : Nat), [(AV.v (Value.int IntKind.i64 x1)), (AV.v (Value.int IntKind.i64 x2)), (AV.v (Value.int IntKind.i64 x3)), (AV.v (Value.int IntKind.i64 x4)), (AV.v (Value.int IntKind.i64 x5)), (AV.v (Value.int IntKind.i64 x6)), (AV.v (Value.int IntKind.i64 x7)), (AV.v (Value.int IntKind.i64 x8)), (AV.v (Value.int IntKind.i64 x9)), (AV.v (Value.int IntKind.i64 x10)), (AV.v (Value.int IntKind.i64 x11)), (AV.v (Value.int IntKind.i64 x12)), (AV.v (Value.int IntKind.i64 x13)), (AV.lst (4 : Nat) (List.map clA cs) Tip.no)]), ((47 : Nat), [(AV.v (Value.int IntKind.i64 (exInt (List.getD (AV.cells (List.getD (List.map clA cs) (Int.toNat i) AV.dead)) (0 : Nat) AV.dead)))), (AV.v (Value.int IntKind.i64 (exInt (List.getD (AV.cells (List.getD (List.map clA cs) (Int.toNat i) AV.dead)) (1 : Nat) AV.dead)))), (AV.v (Value.int IntKind.i64 (exInt (List.getD (AV.cells (List.getD (List.map clA cs) (Int.toNat i) AV.dead)) (2 : Nat) AV.dead)))), (AV.v (Value.int IntKind.i64 (exInt (List.getD (AV.cells (List.getD (List.map clA cs) (Int.toNat i) AV.dead)) (3 : Nat) AV.dead))))])] (@List.nil Nat) (0 : Nat) (0 : Nat) true (@List.nil (Prod Nat Bool)) True)))) else (bif (decide ((1 : Int) ≤ (exInt (List.getD (AV.cells (List.getD (List.map clA cs) (Int.toNat i) AV.dead)) (3 : Nat) AV.dead)))) then (bif (!(decide ((exInt (List.getD (AV.cells (List.getD (List.map clA cs) (Int.toNat i) AV.dead)) (3 : Nat) AV.dead)) ≤ (65535 : Int)))) then (some ((cds True (elemB Tryd.prog (47 : Nat) (List.map clA cs) i) (((0 : Int) ≤ i) ∧ (((List.map clA cs)[(Int.toNat i)]?) = (some (AV.v (Value.agg #[(Value.int IntKind.i64 (exInt (List.getD (AV.cells (List.getD (List.map clA cs) (Int.toNat i) AV.dead)) (0 : Nat) AV.dead))), (Value.int IntKind.i64 (exInt (List.getD (AV.cells (List.getD (List.map clA cs) (Int.toNat i) AV.dead)) (1 : Nat) AV.dead))), (Value.int IntKind.i64 (exInt (List.getD (AV.cells (List.getD (List.map clA cs) (Int.toNat i) AV.dead)) (2 : Nat) AV.dead))), (Value.int IntKind.i64 (exInt (List.getD (AV.cells (List.getD (List.map clA cs) (Int.toNat i) AV.dead)) (3 : Nat) AV.dead)))])))))) ∧ (R Exit.ret [AV.dead, (AV.v (Value.int IntKind.i64 self)), (AV.v (Value.int IntKind.i64 services)), (AV.ptr (0 : Nat) (0 : Nat)), AV.dead, AV.dead, (AV.v (Value.bool false)), AV.dead, AV.dead, AV.dead, AV.dead, AV.dead, AV.dead, AV.dead, (AV.lst (4 : Nat) (List.map clA cs) Tip.no), (AV.v (Value.int IntKind.i64 m)), (AV.v (Value.int IntKind.i64 i)), AV.dead, AV.dead, AV.dead, AV.dead, AV.dead, AV.dead, AV.dead, AV.dead, AV.dead, AV.dead, AV.dead, AV.dead, AV.dead, AV.dead, AV.dead, AV.dead, AV.dead, AV.dead, AV.dead, AV.dead, AV.dead, AV.dead, AV.dead, AV.dead, AV.dead, AV.dead, AV.dead, AV.dead, AV.dead, AV.dead, AV.dead, AV.dead, AV.dead, AV.dead, AV.dead, AV.dead, AV.dead, AV.dead, AV.dead, AV.dead, AV.dead, AV.dead, AV.dead] (AH.mk [((26 : Nat), [(AV.v (Value.int IntKind.i64 x1)), (AV.v (Value.int IntKind.i64 x2)), (AV.v (Value.int IntKind.i64 x3)), (AV.v (Value.int IntKind.i64 x4)), (AV.v (Value.int IntKind.i64 x5)), (AV.v (Value.int IntKind.i64 x6)), (AV.v (Value.int IntKind.i64 x7)), (AV.v (Value.int IntKind.i64 x8)), (AV.v (Value.int IntKind.i64 x9)), (AV.v (Value.int IntKind.i64 x10)), (AV.v (Value.int IntKind.i64 x11)), (AV.v (Value.int IntKind.i64 x12)), (AV.v (Value.int IntKind.i64 x13)), (AV.lst (4 : Nat) (List.map clA cs) Tip.no)]), ((47 : Nat), [(AV.v (Value.int IntKind.i64 (exInt (List.getD (AV.cells (List.getD (List.map clA cs) (Int.toNat i) AV.dead)) (0 : Nat) AV.dead)))), (AV.v (Value.int IntKind.i64 (exInt (List.getD (AV.cells (List.getD (List.map clA cs) (Int.toNat i) AV.dead)) (1 : Nat) AV.dead)))), (AV.v (Value.int IntKind.i64 (exInt (List.getD (AV.cells (List.getD (List.map clA cs) (Int.toNat i) AV.dead)) (2 : Nat) AV.dead)))), (AV.v (Value.int IntKind.i64 (exInt (List.getD (AV.cells (List.getD (List.map clA cs) (Int.toNat i) AV.dead)) (3 : Nat) AV.dead))))])] (@List.nil Nat) (0 : Nat) (0 : Nat) true (@List.nil (Prod Nat Bool)) True)))) else (bif (decide ((0 : Int) ≤ (IX (exInt (List.getD (AV.cells (List.getD (List.map clA cs) (Int.toNat i) AV.dead)) (0 : Nat) AV.dead)) (List.drop (0 : Nat) (List.take (Int.toNat i) (List.map clA cs)))))) then (some ((cdb (cdb (cds True (elemB Tryd.prog (47 : Nat) (List.map clA cs) i) (((0 : Int) ≤ i) ∧ (((List.map clA cs)[(Int.toNat i)]?) = (some (AV.v (Value.agg #[(Value.int IntKind.i64 (exInt (List.getD (AV.cells (List.getD (List.map clA cs) (Int.toNat i) AV.dead)) (0 : Nat) AV.dead))), (Value.int IntKind.i64 (exInt (List.getD (AV.cells (List.getD (List.map clA cs) (Int.toNat i) AV.dead)) (1 : Nat) AV.dead))), (Value.int IntKind.i64 (exInt (List.getD (AV.cells (List.getD (List.map clA cs) (Int.toNat i) AV.dead)) (2 : Nat) AV.dead))), (Value.int IntKind.i64 (exInt (List.getD (AV.cells (List.getD (List.map clA cs) (Int.toNat i) AV.dead)) (3 : Nat) AV.dead)))])))))) (decide (((0 : Int) ≤ (0 : Int)) ∧ (((0 : Int) ≤ i) ∧ (i ≤ ((List.length (List.map clA cs)) : Int)))))) ((OK (47 : Nat) (List.drop (0 : Nat) (List.take (Int.toNat i) (List.map clA cs)))) && (((List.all [(AV.v (Value.int IntKind.i64 (exInt (List.getD (AV.cells (List.getD (List.map clA cs) (Int.toNat i) AV.dead)) (0 : Nat) AV.dead)))), (AV.v (Value.int IntKind.i64 (exInt (List.getD (AV.cells (List.getD (List.map clA cs) (Int.toNat i) AV.dead)) (1 : Nat) AV.dead)))), (AV.v (Value.int IntKind.i64 (exInt (List.getD (AV.cells (List.getD (List.map clA cs) (Int.toNat i) AV.dead)) (2 : Nat) AV.dead)))), (AV.v (Value.int IntKind.i64 (exInt (List.getD (AV.cells (List.getD (List.map clA cs) (Int.toNat i) AV.dead)) (3 : Nat) AV.dead))))] (fun (x : AV) => (isV.match_1 (fun (_ : AV) => Bool) x (fun (_ : Go.Value) => true) (fun (_ : AV) => false)))) && true) && ((List.all [(AV.v (Value.int IntKind.i64 (exInt (List.getD (AV.cells (List.getD (List.map clA cs) (Int.toNat i) AV.dead)) (0 : Nat) AV.dead)))), (AV.v (Value.int IntKind.i64 (exInt (List.getD (AV.cells (List.getD (List.map clA cs) (Int.toNat i) AV.dead)) (1 : Nat) AV.dead)))), (AV.v (Value.int IntKind.i64 (exInt (List.getD (AV.cells (List.getD (List.map clA cs) (Int.toNat i) AV.dead)) (2 : Nat) AV.dead)))), (AV.v (Value.int IntKind.i64 (exInt (List.getD (AV.cells (List.getD (List.map clA cs) (Int.toNat i) AV.dead)) (3 : Nat) AV.dead))))] (fun (x : AV) => (isV.match_1 (fun (_ : AV) => Bool) x (fun (_ : Go.Value) => true) (fun (_ : AV) => false)))) && true)))) ∧ (R Exit.ret [AV.dead, (AV.v (Value.int IntKind.i64 self)), (AV.v (Value.int IntKind.i64 services)), (AV.ptr (0 : Nat) (0 : Nat)), AV.dead, AV.dead, (AV.v (Value.bool false)), AV.dead, AV.dead, AV.dead, AV.dead, AV.dead, AV.dead, AV.dead, (AV.lst (4 : Nat) (List.map clA cs) Tip.no), (AV.v (Value.int IntKind.i64 m)), (AV.v (Value.int IntKind.i64 i)), AV.dead, AV.dead, AV.dead, AV.dead, AV.dead, AV.dead, AV.dead, AV.dead, AV.dead, AV.dead, AV.dead, AV.dead, AV.dead, AV.dead, AV.dead, AV.dead, AV.dead, AV.dead, AV.dead, AV.dead, AV.dead, AV.dead, AV.dead, AV.dead, AV.dead, AV.dead, AV.dead, AV.dead, AV.dead, AV.dead, AV.dead, AV.dead, AV.dead, AV.dead, AV.dead, AV.dead, AV.dead, AV.dead, AV.dead, AV.dead, AV.dead, AV.dead, AV.dead] (AH.mk [((26 : Nat), [(AV.v (Value.int IntKind.i64 x1)), (AV.v (Value.int IntKind.i64 x2)), (AV.v (Value.int IntKind.i64 x3)), (AV.v (Value.int IntKind.i64 x4)), (AV.v (Value.int IntKind.i64 x5)), (AV.v (Value.int IntKind.i64 x6)), (AV.v (Value.int IntKind.i64 x7)), (AV.v (Value.int IntKind.i64 x8)), (AV.v (Value.int IntKind.i64 x9)), (AV.v (Value.int IntKind.i64 x10)), (AV.v (Value.int IntKind.i64 x11)), (AV.v (Value.int IntKind.i64 x12)), (AV.v (Value.int IntKind.i64 x13)), (AV.lst (4 : Nat) (List.map clA cs) Tip.no)]), ((47 : Nat), [(AV.v (Value.int IntKind.i64 (exInt (List.getD (AV.cells (List.getD (List.map clA cs) (Int.toNat i) AV.dead)) (0 : Nat) AV.dead)))), (AV.v (Value.int IntKind.i64 (exInt (List.getD (AV.cells (List.getD (List.map clA cs) (Int.toNat i) AV.dead)) (1 : Nat) AV.dead)))), (AV.v (Value.int IntKind.i64 (exInt (List.getD (AV.cells (List.getD (List.map clA cs) (Int.toNat i) AV.dead)) (2 : Nat) AV.dead)))), (AV.v (Value.int IntKind.i64 (exInt (List.getD (AV.cells (List.getD (List.map clA cs) (Int.toNat i) AV.dead)) (3 : Nat) AV.dead))))])] (@List.nil Nat) (0 : Nat) (0 : Nat) true (@List.nil (Prod Nat Bool)) True)))) else (some ((cdb (cdb (cds True (elemB Tryd.prog (47 : Nat) (List.map clA cs) i) (((0 : Int) ≤ i) ∧ (((List.map clA cs)[(Int.toNat i)]?) = (some (AV.v (Value.agg #[(Value.int IntKind.i64 (exInt (List.getD (AV.cells (List.getD (List.map clA cs) (Int.toNat i) AV.dead)) (0 : Nat) AV.dead))), (Value.int IntKind.i64 (exInt (List.getD (AV.cells (List.getD (List.map clA cs) (Int.toNat i) AV.dead)) (1 : Nat) AV.dead))), (Value.int IntKind.i64 (exInt (List.getD (AV.cells (List.getD (List.map clA cs) (Int.toNat i) AV.dead)) (2 : Nat) AV.dead))), (Value.int IntKind.i64 (exInt (List.getD (AV.cells (List.getD (List.map clA cs) (Int.toNat i) AV.dead)) (3 : Nat) AV.dead)))])))))) (decide (((0 : Int) ≤ (0 : Int)) ∧ (((0 : Int) ≤ i) ∧ (i ≤ ((List.length (List.map clA cs)) : Int)))))) ((OK (47 : Nat) (List.drop (0 : Nat) (List.take (Int.toNat i) (List.map clA cs)))) && (((List.all [(AV.v (Value.int IntKind.i64 (exInt (List.getD (AV.cells (List.getD (List.map clA cs) (Int.toNat i) AV.dead)) (0 : Nat) AV.dead)))), (AV.v (Value.int IntKind.i64 (exInt (List.getD (AV.cells (List.getD (List.map clA cs) (Int.toNat i) AV.dead)) (1 : Nat) AV.dead)))), (AV.v (Value.int IntKind.i64 (exInt (List.getD (AV.cells (List.getD (List.map clA cs) (Int.toNat i) AV.dead)) (2 : Nat) AV.dead)))), (AV.v (Value.int IntKind.i64 (exInt (List.getD (AV.cells (List.getD (List.map clA cs) (Int.toNat i) AV.dead)) (3 : Nat) AV.dead))))] (fun (x : AV) => (isV.match_1 (fun (_ : AV) => Bool) x (fun (_ : Go.Value) => true) (fun (_ : AV) => false)))) && true) && ((List.all [(AV.v (Value.int IntKind.i64 (exInt (List.getD (AV.cells (List.getD (List.map clA cs) (Int.toNat i) AV.dead)) (0 : Nat) AV.dead)))), (AV.v (Value.int IntKind.i64 (exInt (List.getD (AV.cells (List.getD (List.map clA cs) (Int.toNat i) AV.dead)) (1 : Nat) AV.dead)))), (AV.v (Value.int IntKind.i64 (exInt (List.getD (AV.cells (List.getD (List.map clA cs) (Int.toNat i) AV.dead)) (2 : Nat) AV.dead)))), (AV.v (Value.int IntKind.i64 (exInt (List.getD (AV.cells (List.getD (List.map clA cs) (Int.toNat i) AV.dead)) (3 : Nat) AV.dead))))] (fun (x : AV) => (isV.match_1 (fun (_ : AV) => Bool) x (fun (_ : Go.Value) => true) (fun (_ : AV) => false)))) && true)))) ∧ (R Exit.normal [AV.dead, (AV.v (Value.int IntKind.i64 self)), (AV.v (Value.int IntKind.i64 services)), (AV.ptr (0 : Nat) (0 : Nat)), AV.dead, AV.dead, AV.dead, AV.dead, AV.dead, AV.dead, AV.dead, AV.dead, AV.dead, AV.dead, (AV.lst (4 : Nat) (List.map clA cs) Tip.no), (AV.v (Value.int IntKind.i64 m)), (AV.v (Value.int IntKind.i64 (IntKind.wrap IntKind.i64 (i + (1 : Int))))), AV.dead, AV.dead, AV.dead, AV.dead, AV.dead, AV.dead, AV.dead, AV.dead, AV.dead, AV.dead, AV.dead, AV.dead, AV.dead, AV.dead, AV.dead, AV.dead, AV.dead, AV.dead, AV.dead, AV.dead, AV.dead, AV.dead, AV.dead, AV.dead, AV.dead, AV.dead, AV.dead, AV.dead, AV.dead, AV.dead, AV.dead, AV.dead, AV.dead, AV.dead, AV.dead, AV.dead, AV.dead, AV.dead, AV.dead, AV.dead, AV.dead, AV.dead, AV.dead] (AH.mk [((26 : Nat), [(AV.v (Value.int IntKind.i64 x1)), (AV.v (Value.int IntKind.i64 x2)), (AV.v (Value.int IntKind.i64 x3)), (AV.v (Value.int IntKind.i64 x4)), (AV.v (Value.int IntKind.i64 x5)), (AV.v (Value.int IntKind.i64 x6)), (AV.v (Value.int IntKind.i64 x7)), (AV.v (Value.int IntKind.i64 x8)), (AV.v (Value.int IntKind.i64 x9)), (AV.v (Value.int IntKind.i64 x10)), (AV.v (Value.int IntKind.i64 x11)), (AV.v (Value.int IntKind.i64 x12)), (AV.v (Value.int IntKind.i64 x13)), (AV.lst (4 : Nat) (List.map clA cs) Tip.no)]), ((47 : Nat), [(AV.v (Value.int IntKind.i64 (exInt (List.getD (AV.cells (List.getD (List.map clA cs) (Int.toNat i) AV.dead)) (0 : Nat) AV.dead)))), (AV.v (Value.int IntKind.i64 (exInt (List.getD (AV.cells (List.getD (List.map clA cs) (Int.toNat i) AV.dead)) (1 : Nat) AV.dead)))), (AV.v (Value.int IntKind.i64 (exInt (List.getD (AV.cells (List.getD (List.map clA cs) (Int.toNat i) AV.dead)) (2 : Nat) AV.dead)))), (AV.v (Value.int IntKind.i64 (exInt (List.getD (AV.cells (List.getD (List.map clA cs) (Int.toNat i) AV.dead)) (3 : Nat) AV.dead))))])] (@List.nil Nat) (0 : Nat) (0 : Nat) true (@List.nil (Prod Nat Bool)) True)))))) else (some ((cds True (elemB Tryd.prog (47 : Nat) (List.map clA cs) i) (((0 : Int) ≤ i) ∧ (((List.map clA cs)[(Int.toNat i)]?) = (some (AV.v (Value.agg #[(Value.int IntKind.i64 (exInt (List.getD (AV.cells (List.getD (List.map clA cs) (Int.toNat i) AV.dead)) (0 : Nat) AV.dead))), (Value.int IntKind.i64 (exInt (List.getD (AV.cells (List.getD (List.map clA cs) (Int.toNat i) AV.dead)) (1 : Nat) AV.dead))), (Value.int IntKind.i64 (exInt (List.getD (AV.cells (List.getD (List.map clA cs) (Int.toNat i) AV.dead)) (2 : Nat) AV.dead))), (Value.int IntKind.i64 (exInt (List.getD (AV.cells (List.getD (List.map clA cs) (Int.toNat i) AV.dead)) (3 : Nat) AV.dead)))])))))) ∧ (R Exit.ret [AV.dead, (AV.v (Value.int IntKind.i64 self)), (AV.v (Value.int IntKind.i64 services)), (AV.ptr (0 : Nat) (0 : Nat)), AV.dead, AV.dead, (AV.v (Value.bool false)), AV.dead, AV.dead, AV.dead, AV.dead, AV.dead, AV.dead, AV.dead, (AV.lst (4 : Nat) (List.map clA cs) Tip.no), (AV.v (Value.int IntKind.i64 m)), (AV.v (Value.int IntKind.i64 i)), AV.dead, AV.dead, AV.dead, AV.dead, AV.dead, AV.dead, AV.dead, AV.dead, AV.dead, AV.dead, AV.dead, AV.dead, AV.dead, AV.dead, AV.dead, AV.dead, AV.dead, AV.dead, AV.dead, AV.dead, AV.dead, AV.dead, AV.dead, AV.dead, AV.dead, AV.dead, AV.dead, AV.dead, AV.dead, AV.dead, AV.dead, AV.dead, AV.dead, AV.dead, AV.dead, AV.dead, AV.dead, AV.dead, AV.dead, AV.dead, AV.dead, AV.dead, AV.dead] (AH.mk [((26 : Nat), [(AV.v (Value.int IntKind.i64 x1)), (AV.v (Value.int IntKind.i64 x2)), (AV.v (Value.int IntKind.i64 x3)), (AV.v (Value.int IntKind.i64 x4)), (AV.v (Value.int IntKind.i64 x5)), (AV.v (Value.int IntKind.i64 x6)), (AV.v (Value.int IntKind.i64 x7)), (AV.v (Value.int IntKind.i64 x8)), (AV.v (Value.int IntKind.i64 x9)), (AV.v (Value.int IntKind.i64 x10)), (AV.v (Value.int IntKind.i64 x11)), (AV.v (Value.int IntKind.i64 x12)), (AV.v (Value.int IntKind.i64 x13)), (AV.lst (4 : Nat) (List.map clA cs) Tip.no)]), ((47 : Nat), [(AV.v (Value.int IntKind.i64 (exInt (List.getD (AV.cells (List.getD (List.map clA cs) (Int.toNat i) AV.dead)) (0 : Nat) AV.dead)))), (AV.v (Value.int IntKind.i64 (exInt (List.getD (AV.cells (List.getD (List.map clA cs) (Int.toNat i) AV.dead)) (1 : Nat) AV.dead)))), (AV.v (Value.int IntKind.i64 (exInt (List.getD (AV.cells (List.getD (List.map clA cs) (Int.toNat i) AV.dead)) (2 : Nat) AV.dead)))), (AV.v (Value.int IntKind.i64 (exInt (List.getD (AV.cells (List.getD (List.map clA cs) (Int.toNat i) AV.dead)) (3 : Nat) AV.dead))))])] (@List.nil Nat) (0 : Nat) (0 : Nat) true (@List.nil (Prod Nat Bool)) True)))))) else (some ((cds True (elemB Tryd.prog (47 : Nat) (List.map clA cs) i) (((0 : Int) ≤ i) ∧ (((List.map clA cs)[(Int.toNat i)]?) = (some (AV.v (Value.agg #[(Value.int IntKind.i64 (exInt (List.getD (AV.cells (List.getD (List.map clA cs) (Int.toNat i) AV.dead)) (0 : Nat) AV.dead))), (Value.int IntKind.i64 (exInt (List.getD (AV.cells (List.getD (List.map clA cs) (Int.toNat i) AV.dead)) (1 : Nat) AV.dead))), (Value.int IntKind.i64 (exInt (List.getD (AV.cells (List.getD (List.map clA cs) (Int.toNat i) AV.dead)) (2 : Nat) AV.dead))), (Value.int IntKind.i64 (exInt (List.getD (AV.cells (List.getD (List.map clA cs) (Int.toNat i) AV.dead)) (3 : Nat) AV.dead)))])))))) ∧ (R Exit.ret [AV.dead, (AV.v (Value.int IntKind.i64 self)), (AV.v (Value.int IntKind.i64 services)), (AV.ptr (0 : Nat) (0 : Nat)), AV.dead, AV.dead, (AV.v (Value.bool false)), AV.dead, AV.dead, AV.dead, AV.dead, AV.dead, AV.dead, AV.dead, (AV.lst (4 : Nat) (List.map clA cs) Tip.no), (AV.v (Value.int IntKind.i64 m)), (AV.v (Value.int IntKind.i64 i)), AV.dead, AV.dead, AV.dead, AV.dead, AV.dead, AV.dead, AV.dead, AV.dead, AV.dead, AV.dead, AV.dead, AV.dead, AV.dead, AV.dead, AV.dead, AV.dead, AV.dead, AV.dead, AV.dead, AV.dead, AV.dead, AV.dead, AV.dead, AV.dead, AV.dead, AV.dead, AV.dead, AV.dead, AV.dead, AV.dead, AV.dead, AV.dead, AV.dead, AV.dead, AV.dead, AV.dead, AV.dead, AV.dead, AV.dead, AV.dead, AV.dead, AV.dead, AV.dead] (AH.mk [((26 : Nat), [(AV.v (Value.int IntKind.i64 x1)), (AV.v (Value.int IntKind.i64 x2)), (AV.v (Value.int IntKind.i64 x3)), (AV.v (Value.int IntKind.i64 x4)), (AV.v (Value.int IntKind.i64 x5)), (AV.v (Value.int IntKind.i64 x6)), (AV.v (Value.int IntKind.i64 x7)), (AV.v (Value.int IntKind.i64 x8)), (AV.v (Value.int IntKind.i64 x9)), (AV.v (Value.int IntKind.i64 x10)), (AV.v (Value.int IntKind.i64 x11)), (AV.v (Value.int IntKind.i64 x12)), (AV.v (Value.int IntKind.i64 x13)), (AV.lst (4 : Nat) (List.map clA cs) Tip.no)]), ((47 : Nat), [(AV.v (Value.int IntKind.i64 (exInt (List.getD (AV.cells (List.getD (List.map clA cs) (Int.toNat i) AV.dead)) (0 : Nat) AV.dead)))), (AV.v (Value.int IntKind.i64 (exInt (List.getD (AV.cells (List.getD (List.map clA cs) (Int.toNat i) AV.dead)) (1 : Nat) AV.dead)))), (AV.v (Value.int IntKind.i64 (exInt (List.getD (AV.cells (List.getD (List.map clA cs) (Int.toNat i) AV.dead)) (2 : Nat) AV.dead)))), (AV.v (Value.int IntKind.i64 (exInt (List.getD (AV.cells (List.getD (List.map clA cs) (Int.toNat i) AV.dead)) (3 : Nat) AV.dead))))])] (@List.nil Nat) (0 : Nat) (0 : Nat) true (@List.nil (Prod Nat Bool)) True)))))) else (some ((cds True (elemB Tryd.prog (47 : Nat) (List.map clA cs) i) (((0 : Int) ≤ i) ∧ (((List.map clA cs)[(Int.toNat i)]?) = (some (AV.v (Value.agg #[(Value.int IntKind.i64 (exInt (List.getD (AV.cells (List.getD (List.map clA cs) (Int.toNat i) AV.dead)) (0 : Nat) AV.dead))), (Value.int IntKind.i64 (exInt (List.getD (AV.cells (List.getD (List.map clA cs) (Int.toNat i) AV.dead)) (1 : Nat) AV.dead))), (Value.int IntKind.i64 (exInt (List.getD (AV.cells (List.getD (List.map clA cs) (Int.toNat i) AV.dead)) (2 : Nat) AV.dead))), (Value.int IntKind.i64 (exInt (List.getD (AV.cells (List.getD (List.map clA cs) (Int.toNat i) AV.dead)) (3 : Nat) AV.dead)))])))))) ∧ (R Exit.ret [AV.dead, (AV.v (Value.int IntKind.i64 self)), (AV.v (Value.int IntKind.i64 services)), (AV.ptr (0 : Nat) (0 : Nat)), AV.dead, AV.dead, (AV.v (Value.bool false)), AV.dead, AV.dead, AV.dead, AV.dead, AV.dead, AV.dead, AV.dead, (AV.lst (4 : Nat) (List.map clA cs) Tip.no), (AV.v (Value.int IntKind.i64 m)), (AV.v (Value.int IntKind.i64 i)), AV.dead, AV.dead, AV.dead, AV.dead, AV.dead, AV.dead, AV.dead, AV.dead, AV.dead, AV.dead, AV.dead, AV.dead, AV.dead, AV.dead, AV.dead, AV.dead, AV.dead, AV.dead, AV.dead, AV.dead, AV.dead, AV.dead, AV.dead, AV.dead, AV.dead, AV.dead, AV.dead, AV.dead, AV.dead, AV.dead, AV.dead, AV.dead, AV.dead, AV.dead, AV.dead, AV.dead, AV.dead, AV.dead, AV.dead, AV.dead, AV.dead, AV.dead, AV.dead] (AH.mk [((26 : Nat), [(AV.v (Value.int IntKind.i64 x1)), (AV.v (Value.int IntKind.i64 x2)), (AV.v (Value.int IntKind.i64 x3)), (AV.v (Value.int IntKind.i64 x4)), (AV.v (Value.int IntKind.i64 x5)), (AV.v (Value.int IntKind.i64 x6)), (AV.v (Value.int IntKind.i64 x7)), (AV.v (Value.int IntKind.i64 x8)), (AV.v (Value.int IntKind.i64 x9)), (AV.v (Value.int IntKind.i64 x10)), (AV.v (Value.int IntKind.i64 x11)), (AV.v (Value.int IntKind.i64 x12)), (AV.v (Value.int IntKind.i64 x13)), (AV.lst (4 : Nat) (List.map clA cs) Tip.no)]), ((47 : Nat), [(AV.v (Value.int IntKind.i64 (exInt (List.getD (AV.cells (List.getD (List.map clA cs) (Int.toNat i) AV.dead)) (0 : Nat) AV.dead)))), (AV.v (Value.int IntKind.i64 (exInt (List.getD (AV.cells (List.getD (List.map clA cs) (Int.toNat i) AV.dead)) (1 : Nat) AV.dead)))), (AV.v (Value.int IntKind.i64 (exInt (List.getD (AV.cells (List.getD (List.map clA cs) (Int.toNat i) AV.dead)) (2 : Nat) AV.dead)))), (AV.v (Value.int IntKind.i64 (exInt (List.getD (AV.cells (List.getD (List.map clA cs) (Int.toNat i) AV.dead)) (3 : Nat) AV.dead))))])] (@List.nil Nat) (0 : Nat) (0 : Nat) true (@List.nil (Prod Nat Bool)) True))))))) else (some ((cds True (elemB Tryd.prog (47 : Nat) (List.map clA cs) i) (((0 : Int) ≤ i) ∧ (((List.map clA cs)[(Int.toNat i)]?) = (some (AV.v (Value.agg #[(Value.int IntKind.i64 (exInt (List.getD (AV.cells (List.getD (List.map clA cs) (Int.toNat i) AV.dead)) (0 : Nat) AV.dead))), (Value.int IntKind.i64 (exInt (List.getD (AV.cells (List.getD (List.map clA cs) (Int.toNat i) AV.dead)) (1 : Nat) AV.dead))), (Value.int IntKind.i64 (exInt (List.getD (AV.cells (List.getD (List.map clA cs) (Int.toNat i) AV.dead)) (2 : Nat) AV.dead))), (Value.int IntKind.i64 (exInt (List.getD (AV.cells (List.getD (List.map clA cs) (Int.toNat i) AV.dead)) (3 : Nat) AV.dead)))])))))) ∧ (R Exit.ret [AV.dead, (AV.v (Value.int IntKind.i64 self)), (AV.v (Value.int IntKind.i64 services)), (AV.ptr (0 : Nat) (0 : Nat)), AV.dead, AV.dead, (AV.v (Value.bool false)), AV.dead, AV.dead, AV.dead, AV.dead, AV.dead, AV.dead, AV.dead, (AV.lst (4 : Nat) (List.map clA cs) Tip.no), (AV.v (Value.int IntKind.i64 m)), (AV.v (Value.int IntKind.i64 i)), AV.dead, AV.dead, AV.dead, AV.dead, AV.dead, AV.dead, AV.dead, AV.dead, AV.dead, AV.dead, AV.dead, AV.dead, AV.dead, AV.dead, AV.dead, AV.dead, AV.dead, AV.dead, AV.dead, AV.dead, AV.dead, AV.dead, AV.dead, AV.dead, AV.dead, AV.dead, AV.dead, AV.dead, AV.dead, AV.dead, AV.dead, AV.dead, AV.dead, AV.dead, AV.dead, AV.dead, AV.dead, AV.dead, AV.dead, AV.dead, AV.dead, AV.dead, AV.dead] (AH.mk [((26 : Nat), [(AV.v (Value.int IntKind.i64 x1)), (AV.v (Value.int IntKind.i64 x2)), (AV.v (Value.int IntKind.i64 x3)), (AV.v (Value.int IntKind.i64 x4)), (AV.v (Value.int IntKind.i64 x5)), (AV.v (Value.int IntKind.i64 x6)), (AV.v (Value.int IntKind.i64 x7)), (AV.v (Value.int IntKind.i64 x8)), (AV.v (Value.int IntKind.i64 x9)), (AV.v (Value.int IntKind.i64 x10)), (AV.v (Value.int IntKind.i64 x11)), (AV.v (Value.int IntKind.i64 x12)), (AV.v (Value.int IntKind.i64 x13)), (AV.lst (4 : Nat) (List.map clA cs) Tip.no)]), ((47 : Nat), [(AV.v (Value.int IntKind.i64 (exInt (List.getD (AV.cells (List.getD (List.map clA cs) (Int.toNat i) AV.dead)) (0 : Nat) AV.dead)))), (AV.v (Value.int IntKind.i64 (exInt (List.getD (AV.cells (List.getD (List.map clA cs) (Int.toNat i) AV.dead)) (1 : Nat) AV.dead)))), (AV.v (Value.int IntKind.i64 (exInt (List.getD (AV.cells (List.getD (List.map clA cs) (Int.toNat i) AV.dead)) (2 : Nat) AV.dead)))), (AV.v (Value.int IntKind.i64 (exInt (List.getD (AV.cells (List.getD (List.map clA cs) (Int.toNat i) AV.dead)) (3 : Nat) AV.dead))))])] (@List.nil Nat) (0 : Nat) (0 : Nat) true (@List.nil (Prod Nat Bool)) True))))) else (some (True ∧ (R (Exit.exit (0 : Nat)) [AV.dead, (AV.v (Value.int IntKind.i64 self)), (AV.v (Value.int IntKind.i64 services)), (AV.ptr (0 : Nat) (0 : Nat)), AV.dead, AV.dead, AV.dead, AV.dead, AV.dead, AV.dead, AV.dead, AV.dead, AV.dead, AV.dead, (AV.lst (4 : Nat) (List.map clA cs) Tip.no), (AV.v (Value.int IntKind.i64 m)), (AV.v (Value.int IntKind.i64 i)), AV.dead, AV.dead, AV.dead, AV.dead, AV.dead, AV.dead, AV.dead, AV.dead, AV.dead, AV.dead, AV.dead, AV.dead, AV.dead, AV.dead, AV.dead, AV.dead, AV.dead, AV.dead, AV.dead, AV.dead, AV.dead, AV.dead, AV.dead, AV.dead, AV.dead, AV.dead, AV.dead, AV.dead, AV.dead, AV.dead, AV.dead, AV.dead, AV.dead, AV.dead, AV.dead, AV.dead, AV.dead, AV.dead, AV.dead, AV.dead, AV.dead, AV.dead, AV.dead] (AH.mk [((26 : Nat), [(AV.v (Value.int IntKind.i64 x1)), (AV.v (Value.int IntKind.i64 x2)), (AV.v (Value.int IntKind.i64 x3)), (AV.v (Value.int IntKind.i64 x4)), (AV.v (Value.int IntKind.i64 x5)), (AV.v (Value.int IntKind.i64 x6)), (AV.v (Value.int IntKind.i64 x7)), (AV.v (Value.int IntKind.i64 x8)), (AV.v (Value.int IntKind.i64 x9)), (AV.v (Value.int IntKind.i64 x10)), (AV.v (Value.int IntKind.i64 x11)), (AV.v (Value.int IntKind.i64 x12)), (AV.v (Value.int IntKind.i64 x13)), (AV.lst (4 : Nat) (List.map clA cs) Tip.no)])] (@List.nil Nat) (0 : Nat) (0 : Nat) true (@List.nil (Prod Nat Bool)) True))))) := by kernel_rfl
theorem ac_post (ro : Nat → Option (List Value)) (IX : Int → List AV → Int) (OK : TypeId → List AV → Bool) (x1 x2 x3 x4 x5 x6 x7 x8 x9 x10 x11 x12 x13 : Int) (cs : List Cl) (self services m i : Int) (R : Exit → List AV → AH → Prop) : codeL ro (fun _ => false) (prI IX OK) 8 ((flatten (bodyOf 29)).drop 5) (acA self services cs m i) (hp [(26, svcQ x1 x2 x3 x4 x5 x6 x7 x8 x9 x10 x11 x12 x13 cs)] []) (kp [6] R) =
    (some (True ∧ (R Exit.ret [AV.dead, AV.dead, AV.dead, AV.dead, AV.dead, AV.dead, (AV.v (Value.bool true)), AV.dead, AV.dead, AV.dead, AV.dead, AV.dead, AV.dead, AV.dead, AV.dead, AV.dead, AV.dead, AV.dead, AV.dead, AV.dead, AV.dead, AV.dead, AV.dead, AV.dead, AV.dead, AV.dead, AV.dead, AV.dead, AV.dead, AV.dead, AV.dead, AV.dead, AV.dead, AV.dead, AV.dead, AV.dead, AV.dead, AV.dead, AV.dead, AV.dead, AV.dead, AV.dead, AV.dead, AV.dead, AV.dead, AV.dead, AV.dead, AV.dead, AV.dead, AV.dead, AV.dead, AV.dead, AV.dead, AV.dead, AV.dead, AV.dead, AV.dead, AV.dead, AV.dead, AV.dead] (AH.mk [((26 : Nat), [(AV.v (Value.int IntKind.i64 x1)), (AV.v (Value.int IntKind.i64 x2)), (AV.v (Value.int IntKind.i64 x3)), (AV.v (Value.int IntKind.i64 x4)), (AV.v (Value.int IntKind.i64 x5)), (AV.v (Value.int IntKind.i64 x6)), (AV.v (Value.int IntKind.i64 x7)), (AV.v (Value.int IntKind.i64 x8)), (AV.v (Value.int IntKind.i64 x9)), (AV.v (Value.int IntKind.i64 x10)), (AV.v (Value.int IntKind.i64 x11)), (AV.v (Value.int IntKind.i64 x12)), (AV.v (Value.int IntKind.i64 x13)), (AV.lst (4 : Nat) (List.map clA cs) Tip.no)])] (@List.nil Nat) (0 : Nat) (0 : Nat) true (@List.nil (Prod Nat Bool)) True)))) := by kernel_rfl
end Go.Proofs.YtkienkbaiejdmaaDoor.AE
namespace Go.Proofs.YtkienkbaiejdmaaDoor.AE
open Go.RowKit
theorem ac_sl : slotsOf 29 = 60 := by kernel_rfl
theorem ac_re : resultsOf 29 = [.tmp 6] := by kernel_rfl
theorem ac_fl : (flatten (bodyOf 29)).drop 4 = .block 0 (.loop (sub (bodyOf 29) [1, 1, 0, 1, 0, 0])) :: (flatten (bodyOf 29)).drop 5 := by kernel_rfl
theorem any_take {cs : List Cl} {i : Nat} {t : Int} (h : (cs.take i).any (fun x => x.to == t) = true) : ∃ k, ∃ h : k < cs.length, k < i ∧ cs[k].to = t := by
  obtain ⟨x, hx, ht⟩ := List.any_eq_true.1 h
  obtain ⟨k, hk, e⟩ := List.mem_iff_getElem.1 hx
  have hk2 := hk
  rw [List.length_take] at hk2
  rw [List.getElem_take] at e
  exact ⟨k, by omega, by omega, by rw [e]; exact eq_of_beq ht⟩
theorem none_take {cs : List Cl} {i : Nat} {t : Int} (h : (cs.take i).any (fun x => x.to == t) = false) {k : Nat} (hk : k < i) (hl : k < cs.length) : cs[k].to ≠ t := by
  intro e
  have hm : cs[k] ∈ cs.take i := by
    refine List.mem_iff_getElem.2 ⟨k, by rw [List.length_take]; omega, ?_⟩
    rw [List.getElem_take]
  have := List.any_eq_false.1 h _ hm
  rw [e, beq_self_eq_true] at this
  exact this rfl
set_option maxRecDepth 100000 in
theorem fs_areCalls {ro : Nat → Option (List Value)} (x1 x2 x3 x4 x5 x6 x7 x8 x9 x10 x11 x12 x13 : Int) (cs : List Cl) (self services : Int) (hl : cs.length ≤ 1000000) : Fs Tryd.prog ro 29 [svcA x1 x2 x3 x4 x5 x6 x7 x8 x9 x10 x11 x12 x13 cs, gi self, gi services] (hp [] []) fun r _ => r = .v (.bool (callsB self services x4 cs)) := by
  refine Fs.of_body (has_fn (by kernel_rfl)) ?_
  rw [ac_sl, ac_re]
  have pre := fun R => ac_pre ro ixN ixK x1 x2 x3 x4 x5 x6 x7 x8 x9 x10 x11 x12 x13 cs self services R
  rw [cll] at pre
  refine Tr.of_flat (Trl.split 4 (Trl.of_code knownI (ne_nil (by kernel_rfl)) (pre _) (holds_bif (fun h6 => ⟨trivial, .inr rfl, trivial, ?_⟩) fun h6 => ⟨trivial, ?_⟩)))
  · have h6 := of_decide_eq_true h6
    unfold callsB
    rw [decide_eq_false (fun h : cs.length ≤ 6 ∧ callsP self (IntKind.wrap .i64 (services - 1)) x4 cs => absurd h.1 (by omega))]; rfl
  have h6 := of_decide_eq_false h6
  show Trl _ _ ((flatten (bodyOf 29)).drop 4) _ _ _
  rw [ac_fl]
  refine Tr.keepL [1, 2, 3, 14, 15, 16] rfl ?_
  let S : AH := hp [(26, svcQ x1 x2 x3 x4 x5 x6 x7 x8 x9 x10 x11 x12 x13 cs)] []
  let I : Nat → List AV → AH → Prop := fun m act H => ∃ i : Nat, i ≤ cs.length ∧ m = cs.length - i ∧ act = acA self services cs (cs.length : Nat) i ∧ H = S ∧ ∀ j, (h : j < cs.length) → j < i → okI self (IntKind.wrap .i64 (services - 1)) x4 cs j h
  refine Tr.block (Tr.loop I ?_ (m := cs.length) ⟨0, Nat.zero_le _, rfl, rfl, rfl, fun j _ h => absurd h (by omega)⟩)
  rintro m act H ⟨i, hi, rfl, rfl, rfl, hI⟩
  by_cases h1 : cs.length ≤ i
  · refine Tr.forget 1 0 (Nat.le_refl _) (Nat.le_refl _) (Tr.less (Tr.of_code knownI (ac_in ro ixN ixK x1 x2 x3 x4 x5 x6 x7 x8 x9 x10 x11 x12 x13 cs self services (cs.length : Nat) i _) (holds_bif (fun h => absurd (of_decide_eq_true h) (by omega)) fun _ => ⟨trivial, [1, 2, 3, 14, 15, 16], by kernel_rfl, by kernel_rfl, ?_⟩)))
    show Trl _ _ ((flatten (bodyOf 29)).drop 5) _ _ _
    refine Trl.of_code knownI (ne_nil (by kernel_rfl)) (ac_post ro ixN ixK x1 x2 x3 x4 x5 x6 x7 x8 x9 x10 x11 x12 x13 cs self services (cs.length : Nat) i _) ⟨trivial, .inr rfl, trivial, ?_⟩
    have hP : callsP self (IntKind.wrap .i64 (services - 1)) x4 cs := fun j h => hI j h (by omega)
    unfold callsB
    rw [decide_eq_true (⟨by omega, hP⟩ : cs.length ≤ 6 ∧ callsP self (IntKind.wrap .i64 (services - 1)) x4 cs)]; rfl
  have h1 : i < cs.length := by omega
  have e1 := cl_el h1
  have no := fun hn => callsB_no (self := self) (services := services) (tiers := x4) h1 hn
  have bad : ¬ okC self (IntKind.wrap .i64 (services - 1)) x4 cs[i] → AV.v (.bool false) = AV.v (.bool (callsB self services x4 cs)) := fun hn => no (fun h => hn h.1)
  have okq : ∀ b : Bool, b = true → (ixK 47 (List.drop 0 (List.take (Int.toNat (i : Int)) (cs.map clA))) && b) = true := fun b hb => by
    rw [hb, Bool.and_true, List.drop_zero, Int.toNat_natCast, ← List.map_take]
    exact ixK_of _ (by rw [List.length_take]; omega)
  have inr : decide ((0 : Int) ≤ (0 : Int) ∧ (0 : Int) ≤ (i : Int) ∧ (i : Int) ≤ ((cs.map clA).length : Int)) = true := decide_eq_true ⟨by omega, by omega, by rw [cll]; omega⟩
  refine Tr.forget 1 0 (Nat.le_refl _) (Nat.le_refl _) (Tr.less (Tr.of_code knownI (ac_in ro ixN ixK x1 x2 x3 x4 x5 x6 x7 x8 x9 x10 x11 x12 x13 cs self services (cs.length : Nat) i _) ?_))
  rw [cl_get h1, inc64 i (by omega)]
  refine holds_bif (fun _ => ?_) fun h => absurd (of_decide_eq_false h) (by omega)
  refine holds_bif (fun a1 => holds_bif (fun a2 => ⟨cds_of trivial e1, [1, 2, 3, 6], by kernel_rfl, by kernel_rfl, .inr rfl, trivial, bad fun h => ?_⟩) fun a2 => holds_bif (fun a3 => ⟨cds_of trivial e1, [1, 2, 3, 6], by kernel_rfl, by kernel_rfl, .inr rfl, trivial, bad fun h => ?_⟩) fun a3 => holds_bif (fun a4 => holds_bif (fun a5 => ⟨cds_of trivial e1, [1, 2, 3, 6], by kernel_rfl, by kernel_rfl, .inr rfl, trivial, bad fun h => ?_⟩) fun a5 => holds_bif (fun a6 => holds_bif (fun a7 => ⟨cds_of trivial e1, [1, 2, 3, 6], by kernel_rfl, by kernel_rfl, .inr rfl, trivial, bad fun h => ?_⟩) fun a7 => holds_bif (fun a8 => holds_bif (fun a9 => ⟨cds_of trivial e1, [1, 2, 3, 6], by kernel_rfl, by kernel_rfl, .inr rfl, trivial, bad fun h => ?_⟩) fun a9 => ?_) fun a8 => ⟨cds_of trivial e1, [1, 2, 3, 6], by kernel_rfl, by kernel_rfl, .inr rfl, trivial, bad fun h => ?_⟩) fun a6 => ⟨cds_of trivial e1, [1, 2, 3, 6], by kernel_rfl, by kernel_rfl, .inr rfl, trivial, bad fun h => ?_⟩) fun a4 => ⟨cds_of trivial e1, [1, 2, 3, 6], by kernel_rfl, by kernel_rfl, .inr rfl, trivial, bad fun h => ?_⟩) fun a1 => ⟨cds_of trivial e1, [1, 2, 3, 6], by kernel_rfl, by kernel_rfl, .inr rfl, trivial, bad fun h => ?_⟩
  · obtain ⟨p1, p2, p3, p4, p5, p6, p7, p8, p9⟩ := h
    have q : (!decide (cs[i].to ≤ IntKind.wrap .i64 (services - 1))) = true := a2
    simp at q
    omega
  · obtain ⟨p1, p2, p3, p4, p5, p6, p7, p8, p9⟩ := h
    have q : (cs[i].to == self) = true := a3
    simp at q
    exact p3 q
  · obtain ⟨p1, p2, p3, p4, p5, p6, p7, p8, p9⟩ := h
    have q : (!decide (cs[i].tier ≤ x4)) = true := a5
    simp at q
    omega
  · obtain ⟨p1, p2, p3, p4, p5, p6, p7, p8, p9⟩ := h
    have q : (!decide (cs[i].weight ≤ 8)) = true := a7
    simp at q
    omega
  · obtain ⟨p1, p2, p3, p4, p5, p6, p7, p8, p9⟩ := h
    have q : (!decide (cs[i].most ≤ 65535)) = true := a9
    simp at q
    omega
  · have ok : okC self (IntKind.wrap .i64 (services - 1)) x4 cs[i] := by
      have b1 : decide (0 ≤ cs[i].to) = true := a1
      have b2 : (!decide (cs[i].to ≤ IntKind.wrap .i64 (services - 1))) = false := a2
      have b3 : (cs[i].to == self) = false := a3
      have b4 : decide (0 ≤ cs[i].tier) = true := a4
      have b5 : (!decide (cs[i].tier ≤ x4)) = false := a5
      have b6 : decide (1 ≤ cs[i].weight) = true := a6
      have b7 : (!decide (cs[i].weight ≤ 8)) = false := a7
      have b8 : decide (1 ≤ cs[i].most) = true := a8
      have b9 : (!decide (cs[i].most ≤ 65535)) = false := a9
      simp at b1 b2 b3 b4 b5 b6 b7 b8 b9
      exact ⟨b1, b2, b3, b4, b5, b6, b7, b8, b9⟩
    have key : ∀ b : Bool, decide (0 ≤ ixN cs[i].to (List.drop 0 (List.take (Int.toNat (i : Int)) (cs.map clA)))) = b → (cs.take i).any (fun x => x.to == cs[i].to) = b := fun b hb => by
      rw [List.drop_zero, Int.toNat_natCast, ← List.map_take, ixN_of, ixX_any] at hb
      exact hb
    refine holds_bif (fun c1 => ⟨cdb_iff.2 ⟨cdb_iff.2 ⟨cds_of trivial e1, inr⟩, okq _ rfl⟩, [1, 2, 3, 6], by kernel_rfl, by kernel_rfl, .inr rfl, trivial, no fun h => ?_⟩) fun c1 => ⟨cdb_iff.2 ⟨cdb_iff.2 ⟨cds_of trivial e1, inr⟩, okq _ rfl⟩, [1, 2, 3, 14, 15, 16], by kernel_rfl, by kernel_rfl, cs.length - (i + 1), by omega, i + 1, h1, rfl, rfl, rfl, fun j hj hji => ?_⟩
    · obtain ⟨k, hk, hki, e⟩ := any_take (key _ c1)
      exact h.2 k hki e
    · by_cases e : j = i
      · subst e
        exact ⟨ok, fun k hk => none_take (key _ c1) hk (by omega)⟩
      · exact hI j hj (by omega)
  · obtain ⟨p1, p2, p3, p4, p5, p6, p7, p8, p9⟩ := h
    have q : decide (1 ≤ cs[i].most) = false := a8
    simp at q
    omega
  · obtain ⟨p1, p2, p3, p4, p5, p6, p7, p8, p9⟩ := h
    have q : decide (1 ≤ cs[i].weight) = false := a6
    simp at q
    omega
  · obtain ⟨p1, p2, p3, p4, p5, p6, p7, p8, p9⟩ := h
    have q : decide (0 ≤ cs[i].tier) = false := a4
    simp at q
    omega
  · obtain ⟨p1, p2, p3, p4, p5, p6, p7, p8, p9⟩ := h
    have q : decide (0 ≤ cs[i].to) = false := a1
    simp at q
    omega
end Go.Proofs.YtkienkbaiejdmaaDoor.AE
namespace Go.Proofs.YtkienkbaiejdmaaDoor.AE
open Go.RowKit
def cqV (CB : AV → Int → Int → Bool) (args : List AV) : AV := .v (.bool (CB (args.headD .dead) (exInt (args.tail.headD .dead)) (exInt (args.tail.tail.headD .dead))))
def cqOk (args : List AV) : Bool := match args with
  | [x, .v (.int .i64 _), .v (.int .i64 _)] => match svc? x with
    | some p => decide (p.2.length ≤ 1000000)
    | none => false
  | _ => false
def cqX (x : AV) (self services : Int) : Bool := callsB self services ((svcN x).getD 3 0) (svcK x)
theorem cq_ok {ro : Nat → Option (List Value)} {g : FuncId} (hf : ∃ fn, Tryd.prog.funcs[g]? = some fn ∧ fn.body.isSome = true) (hs : ∀ (x1 x2 x3 x4 x5 x6 x7 x8 x9 x10 x11 x12 x13 : Int) (cs : List Cl) (self services : Int), cs.length ≤ 1000000 → Fs Tryd.prog ro g [svcA x1 x2 x3 x4 x5 x6 x7 x8 x9 x10 x11 x12 x13 cs, gi self, gi services] (hp [] []) fun r _ => r = .v (.bool (callsB self services x4 cs))) :
    ∀ args H r H', tot? (cqV cqX) cqOk args H = some (r, H') → HSound1 Tryd.prog ro g args H r H' := by
  refine tot_ok hf fun args hok => ?_
  unfold cqOk at hok
  split at hok
  · rename_i x self services
    split at hok
    · rename_i p hp
      obtain ⟨zs, cs⟩ := p
      have hok := of_decide_eq_true hok
      obtain ⟨x', h1, h2⟩ := svc_clean hp
      obtain ⟨x1, x2, x3, x4, x5, x6, x7, x8, x9, x10, x11, x12, x13, rfl⟩ := list13 (svc_cells hp).1
      refine ⟨[x', gi self, gi services], by simp only [cleans, h1]; rfl, ?_⟩
      refine Fs.weak ((hs x1 x2 x3 x4 x5 x6 x7 x8 x9 x10 x11 x12 x13 cs self services hok).mono fun r _ h => ?_) fun G W cs h => ?_
      · subst h
        refine ⟨_, rfl, ?_⟩
        show Le _ (.v (.bool (callsB self services ((svcN x).getD 3 0) (svcK x))))
        rw [svcN_some hp, svcK_some hp]
        exact Le.refl _
      · cases h with
        | cons e1 t => exact .cons (svc_le h2 _ _ _ e1) t
    · cases hok
  · cases hok
def kcP (KC : Int → Int → Int → Int → Int → Int → Int → Int → Int) : List Value → Option (Value × Bool) := fun us => match us with
  | [.agg cs, .int .i64 n] => match cs.toList with
    | [.int .i64 a, .int .i64 b, .int .i64 c, .int .i64 d, .int .i64 e, .int .i64 f, .int .i64 g] => some (.int .i64 (KC a b c d e f g n), true)
    | _ => none
  | _ => none
theorem kc_ok {ro : Nat → Option (List Value)} {h : FuncId} (hf : ∃ fn, Tryd.prog.funcs[h]? = some fn ∧ fn.body.isSome = true) (hs : ∀ a b c d e f g n, Fs Tryd.prog ro h [.v (kn7 a b c d e f g), .v (.int .i64 n)] (hp [] []) fun r _ => r = .v (.int .i64 (kcV a b c d e f g n))) :
    ∀ args H r H', pure? (kcP kcV) args H = some (r, H') → HSound1 Tryd.prog ro h args H r H' := by
  refine pure_ok (fun us x hx => ?_) hf
  unfold kcP at hx
  split at hx
  · rename_i cs n
    split at hx
    · rename_i a b c d e f g hv
      simp only [Option.some.injEq, Prod.mk.injEq, and_true] at hx
      subst hx
      have e1 : cs = #[.int .i64 a, .int .i64 b, .int .i64 c, .int .i64 d, .int .i64 e, .int .i64 f, .int .i64 g] := Array.toList_inj.1 hv
      subst e1
      exact hs a b c d e f g n
    · cases hx
  · cases hx
noncomputable def prE (CB : AV → Int → Int → Bool) (KC : Int → Int → Int → Int → Int → Int → Int → Int → Int) : FuncId → Option (List AV → AH → Ans) := fun g => match g with
  | 29 => some (tot? (cqV CB) cqOk)
  | 32 => some (tot? (cqV CB) cqOk)
  | 28 => some (pure? (kcP KC))
  | 31 => some (pure? (kcP KC))
  | _ => none
theorem knownE {ro : Nat → Option (List Value)} : Known ro (prE cqX kcV) := by
  intro g p h
  unfold prE at h
  split at h
  · cases h; exact cq_ok (has_fn (by kernel_rfl)) fs_areCalls
  · cases h; exact cq_ok (has_fn (by kernel_rfl)) fs_calls
  · cases h; exact kc_ok (has_fn (by kernel_rfl)) fs_kcheck
  · cases h; exact kc_ok (has_fn (by kernel_rfl)) fs_krcheck
  · cases h
theorem c_check (ro : Nat → Option (List Value)) (CB : AV → Int → Int → Bool) (KC : Int → Int → Int → Int → Int → Int → Int → Int → Int) (x1 x2 x3 x4 x5 x6 x7 x8 x9 x10 x11 x12 x13 : Int) (cs : List Cl) (self services levels : Int) (Φ : AV → Prop) : callK ro (fun _ => false) (prE CB KC) 8 7 [svcA x1 x2 x3 x4 x5 x6 x7 x8 x9 x10 x11 x12 x13 cs, gi self, gi services, gi levels] (hp [] []) (fun r h => some (h.cd ∧ Φ r)) =
    (bif (decide ((1 : Int) ≤ services)) then (bif (!(decide (services ≤ (8 : Int)))) then (some (True ∧ (Φ (AV.v (Value.int IntKind.i64 (10 : Int)))))) else (bif (decide ((0 : Int) ≤ self)) then (bif (!(decide (self ≤ (IntKind.wrap IntKind.i64 (services - (1 : Int)))))) then (some (True ∧ (Φ (AV.v (Value.int IntKind.i64 (10 : Int)))))) else (bif (decide ((1 : Int) ≤ x1)) then (bif (!(decide (x1 ≤ (16 : Int)))) then (some (True ∧ (Φ (AV.v (Value.int IntKind.i64 (10 : Int)))))) else (bif (decide ((1 : Int) ≤ x2)) then (bif (!(decide (x2 ≤ (64 : Int)))) then (some (True ∧ (Φ (AV.v (Value.int IntKind.i64 (10 : Int)))))) else (bif (decide ((1 : Int) ≤ x3)) then (bif (!(decide (x3 ≤ (64 : Int)))) then (some (True ∧ (Φ (AV.v (Value.int IntKind.i64 (10 : Int)))))) else (bif (decide ((0 : Int) ≤ x4)) then (bif (!(decide (x4 ≤ (7 : Int)))) then (some (True ∧ (Φ (AV.v (Value.int IntKind.i64 (10 : Int)))))) else (bif (decide ((0 : Int) ≤ x5)) then (bif (!(decide (x5 ≤ (256 : Int)))) then (some (True ∧ (Φ (AV.v (Value.int IntKind.i64 (10 : Int)))))) else (bif (decide ((0 : Int) ≤ x6)) then (bif (!(decide (x6 ≤ (1099511627776 : Int)))) then (some (True ∧ (Φ (AV.v (Value.int IntKind.i64 (10 : Int)))))) else (bif ((KC x7 x8 x9 x10 x11 x12 x13 levels) != (0 : Int)) then (some (True ∧ (Φ (AV.v (Value.int IntKind.i64 (10 : Int)))))) else (bif (!(CB (AV.agg [(AV.v (Value.int IntKind.i64 x1)), (AV.v (Value.int IntKind.i64 x2)), (AV.v (Value.int IntKind.i64 x3)), (AV.v (Value.int IntKind.i64 x4)), (AV.v (Value.int IntKind.i64 x5)), (AV.v (Value.int IntKind.i64 x6)), (AV.v (Value.int IntKind.i64 x7)), (AV.v (Value.int IntKind.i64 x8)), (AV.v (Value.int IntKind.i64 x9)), (AV.v (Value.int IntKind.i64 x10)), (AV.v (Value.int IntKind.i64 x11)), (AV.v (Value.int IntKind.i64 x12)), (AV.v (Value.int IntKind.i64 x13)), (AV.lst (4 : Nat) (List.map clA cs) Tip.no)]) self services)) then (some ((cdb True (cqOk [(AV.agg [(AV.v (Value.int IntKind.i64 x1)), (AV.v (Value.int IntKind.i64 x2)), (AV.v (Value.int IntKind.i64 x3)), (AV.v (Value.int IntKind.i64 x4)), (AV.v (Value.int IntKind.i64 x5)), (AV.v (Value.int IntKind.i64 x6)), (AV.v (Value.int IntKind.i64 x7)), (AV.v (Value.int IntKind.i64 x8)), (AV.v (Value.int IntKind.i64 x9)), (AV.v (Value.int IntKind.i64 x10)), (AV.v (Value.int IntKind.i64 x11)), (AV.v (Value.int IntKind.i64 x12)), (AV.v (Value.int IntKind.i64 x13)), (AV.lst (4 : Nat) (List.map clA cs) Tip.no)]), (AV.v (Value.int IntKind.i64 self)), (AV.v (Value.int IntKind.i64 services))])) ∧ (Φ (AV.v (Value.int IntKind.i64 (10 : Int)))))) else (some ((cdb True (cqOk [(AV.agg [(AV.v (Value.int IntKind.i64 x1)), (AV.v (Value.int IntKind.i64 x2)), (AV.v (Value.int IntKind.i64 x3)), (AV.v (Value.int IntKind.i64 x4)), (AV.v (Value.int IntKind.i64 x5)), (AV.v (Value.int IntKind.i64 x6)), (AV.v (Value.int IntKind.i64 x7)), (AV.v (Value.int IntKind.i64 x8)), (AV.v (Value.int IntKind.i64 x9)), (AV.v (Value.int IntKind.i64 x10)), (AV.v (Value.int IntKind.i64 x11)), (AV.v (Value.int IntKind.i64 x12)), (AV.v (Value.int IntKind.i64 x13)), (AV.lst (4 : Nat) (List.map clA cs) Tip.no)]), (AV.v (Value.int IntKind.i64 self)), (AV.v (Value.int IntKind.i64 services))])) ∧ (Φ (AV.v (Value.int IntKind.i64 (0 : Int))))))))) else (some (True ∧ (Φ (AV.v (Value.int IntKind.i64 (10 : Int)))))))) else (some (True ∧ (Φ (AV.v (Value.int IntKind.i64 (10 : Int)))))))) else (some (True ∧ (Φ (AV.v (Value.int IntKind.i64 (10 : Int)))))))) else (some (True ∧ (Φ (AV.v (Value.int IntKind.i64 (10 : Int)))))))) else (some (True ∧ (Φ (AV.v (Value.int IntKind.i64 (10 : Int)))))))) else (some (True ∧ (Φ (AV.v (Value.int IntKind.i64 (10 : Int)))))))) else (some (True ∧ (Φ (AV.v (Value.int IntKind.i64 (10 : Int)))))))) else (some (True ∧ (Φ (AV.v (Value.int IntKind.i64 (10 : Int))))))) := by kernel_rfl
theorem c_rcheck (ro : Nat → Option (List Value)) (CB : AV → Int → Int → Bool) (KC : Int → Int → Int → Int → Int → Int → Int → Int → Int) (x1 x2 x3 x4 x5 x6 x7 x8 x9 x10 x11 x12 x13 : Int) (cs : List Cl) (self services levels : Int) (Φ : AV → Prop) : callK ro (fun _ => false) (prE CB KC) 8 8 [svcA x1 x2 x3 x4 x5 x6 x7 x8 x9 x10 x11 x12 x13 cs, gi self, gi services, gi levels] (hp [] []) (fun r h => some (h.cd ∧ Φ r)) =
    (bif (decide ((1 : Int) ≤ services)) then (bif (!(decide (services ≤ (8 : Int)))) then (some (True ∧ (Φ (AV.v (Value.int IntKind.i64 (10 : Int)))))) else (bif (decide ((0 : Int) ≤ self)) then (bif (!(decide (self ≤ (IntKind.wrap IntKind.i64 (services - (1 : Int)))))) then (some (True ∧ (Φ (AV.v (Value.int IntKind.i64 (10 : Int)))))) else (bif (decide ((1 : Int) ≤ x1)) then (bif (!(decide (x1 ≤ (16 : Int)))) then (some (True ∧ (Φ (AV.v (Value.int IntKind.i64 (10 : Int)))))) else (bif (decide ((1 : Int) ≤ x2)) then (bif (!(decide (x2 ≤ (64 : Int)))) then (some (True ∧ (Φ (AV.v (Value.int IntKind.i64 (10 : Int)))))) else (bif (decide ((1 : Int) ≤ x3)) then (bif (!(decide (x3 ≤ (64 : Int)))) then (some (True ∧ (Φ (AV.v (Value.int IntKind.i64 (10 : Int)))))) else (bif (decide ((0 : Int) ≤ x4)) then (bif (!(decide (x4 ≤ (7 : Int)))) then (some (True ∧ (Φ (AV.v (Value.int IntKind.i64 (10 : Int)))))) else (bif (decide ((0 : Int) ≤ x5)) then (bif (!(decide (x5 ≤ (256 : Int)))) then (some (True ∧ (Φ (AV.v (Value.int IntKind.i64 (10 : Int)))))) else (bif (decide ((0 : Int) ≤ x6)) then (bif (!(decide (x6 ≤ (1099511627776 : Int)))) then (some (True ∧ (Φ (AV.v (Value.int IntKind.i64 (10 : Int)))))) else (bif ((KC x7 x8 x9 x10 x11 x12 x13 levels) != (0 : Int)) then (some (True ∧ (Φ (AV.v (Value.int IntKind.i64 (10 : Int)))))) else (bif (!(CB (AV.agg [(AV.v (Value.int IntKind.i64 x1)), (AV.v (Value.int IntKind.i64 x2)), (AV.v (Value.int IntKind.i64 x3)), (AV.v (Value.int IntKind.i64 x4)), (AV.v (Value.int IntKind.i64 x5)), (AV.v (Value.int IntKind.i64 x6)), (AV.v (Value.int IntKind.i64 x7)), (AV.v (Value.int IntKind.i64 x8)), (AV.v (Value.int IntKind.i64 x9)), (AV.v (Value.int IntKind.i64 x10)), (AV.v (Value.int IntKind.i64 x11)), (AV.v (Value.int IntKind.i64 x12)), (AV.v (Value.int IntKind.i64 x13)), (AV.lst (4 : Nat) (List.map clA cs) Tip.no)]) self services)) then (some ((cdb True (cqOk [(AV.agg [(AV.v (Value.int IntKind.i64 x1)), (AV.v (Value.int IntKind.i64 x2)), (AV.v (Value.int IntKind.i64 x3)), (AV.v (Value.int IntKind.i64 x4)), (AV.v (Value.int IntKind.i64 x5)), (AV.v (Value.int IntKind.i64 x6)), (AV.v (Value.int IntKind.i64 x7)), (AV.v (Value.int IntKind.i64 x8)), (AV.v (Value.int IntKind.i64 x9)), (AV.v (Value.int IntKind.i64 x10)), (AV.v (Value.int IntKind.i64 x11)), (AV.v (Value.int IntKind.i64 x12)), (AV.v (Value.int IntKind.i64 x13)), (AV.lst (4 : Nat) (List.map clA cs) Tip.no)]), (AV.v (Value.int IntKind.i64 self)), (AV.v (Value.int IntKind.i64 services))])) ∧ (Φ (AV.v (Value.int IntKind.i64 (10 : Int)))))) else (some ((cdb True (cqOk [(AV.agg [(AV.v (Value.int IntKind.i64 x1)), (AV.v (Value.int IntKind.i64 x2)), (AV.v (Value.int IntKind.i64 x3)), (AV.v (Value.int IntKind.i64 x4)), (AV.v (Value.int IntKind.i64 x5)), (AV.v (Value.int IntKind.i64 x6)), (AV.v (Value.int IntKind.i64 x7)), (AV.v (Value.int IntKind.i64 x8)), (AV.v (Value.int IntKind.i64 x9)), (AV.v (Value.int IntKind.i64 x10)), (AV.v (Value.int IntKind.i64 x11)), (AV.v (Value.int IntKind.i64 x12)), (AV.v (Value.int IntKind.i64 x13)), (AV.lst (4 : Nat) (List.map clA cs) Tip.no)]), (AV.v (Value.int IntKind.i64 self)), (AV.v (Value.int IntKind.i64 services))])) ∧ (Φ (AV.v (Value.int IntKind.i64 (0 : Int))))))))) else (some (True ∧ (Φ (AV.v (Value.int IntKind.i64 (10 : Int)))))))) else (some (True ∧ (Φ (AV.v (Value.int IntKind.i64 (10 : Int)))))))) else (some (True ∧ (Φ (AV.v (Value.int IntKind.i64 (10 : Int)))))))) else (some (True ∧ (Φ (AV.v (Value.int IntKind.i64 (10 : Int)))))))) else (some (True ∧ (Φ (AV.v (Value.int IntKind.i64 (10 : Int)))))))) else (some (True ∧ (Φ (AV.v (Value.int IntKind.i64 (10 : Int)))))))) else (some (True ∧ (Φ (AV.v (Value.int IntKind.i64 (10 : Int)))))))) else (some (True ∧ (Φ (AV.v (Value.int IntKind.i64 (10 : Int))))))) := by kernel_rfl
end Go.Proofs.YtkienkbaiejdmaaDoor.AE
namespace Go.Proofs.YtkienkbaiejdmaaDoor.AE
open Go.RowKit
def okS (x1 x2 x3 x4 x5 x6 self services : Int) : Prop := 1 ≤ services ∧ services ≤ 8 ∧ 0 ≤ self ∧ self ≤ IntKind.wrap .i64 (services - 1) ∧ 1 ≤ x1 ∧ x1 ≤ 16 ∧ 1 ≤ x2 ∧ x2 ≤ 64 ∧ 1 ≤ x3 ∧ x3 ≤ 64 ∧ 0 ≤ x4 ∧ x4 ≤ 7 ∧ 0 ≤ x5 ∧ x5 ≤ 256 ∧ 0 ≤ x6 ∧ x6 ≤ 1099511627776
instance (x1 x2 x3 x4 x5 x6 self services : Int) : Decidable (okS x1 x2 x3 x4 x5 x6 self services) := by unfold okS; infer_instance
def ccV (x1 x2 x3 x4 x5 x6 x7 x8 x9 x10 x11 x12 x13 : Int) (cs : List Cl) (self services levels : Int) : Int := if okS x1 x2 x3 x4 x5 x6 self services ∧ kcV x7 x8 x9 x10 x11 x12 x13 levels = 0 ∧ callsB self services x4 cs = true then 0 else 10
theorem cc_no {x1 x2 x3 x4 x5 x6 x7 x8 x9 x10 x11 x12 x13 : Int} {cs : List Cl} {self services levels : Int} (h : ¬ (okS x1 x2 x3 x4 x5 x6 self services ∧ kcV x7 x8 x9 x10 x11 x12 x13 levels = 0 ∧ callsB self services x4 cs = true)) : AV.v (.int .i64 10) = .v (.int .i64 (ccV x1 x2 x3 x4 x5 x6 x7 x8 x9 x10 x11 x12 x13 cs self services levels)) := by unfold ccV; rw [if_neg h]
theorem cc_yes {x1 x2 x3 x4 x5 x6 x7 x8 x9 x10 x11 x12 x13 : Int} {cs : List Cl} {self services levels : Int} (h : okS x1 x2 x3 x4 x5 x6 self services ∧ kcV x7 x8 x9 x10 x11 x12 x13 levels = 0 ∧ callsB self services x4 cs = true) : AV.v (.int .i64 0) = .v (.int .i64 (ccV x1 x2 x3 x4 x5 x6 x7 x8 x9 x10 x11 x12 x13 cs self services levels)) := by unfold ccV; rw [if_pos h]
theorem cqX_A (x1 x2 x3 x4 x5 x6 x7 x8 x9 x10 x11 x12 x13 : Int) (cs : List Cl) (self services : Int) : cqX (AV.agg [(AV.v (Value.int IntKind.i64 x1)), (AV.v (Value.int IntKind.i64 x2)), (AV.v (Value.int IntKind.i64 x3)), (AV.v (Value.int IntKind.i64 x4)), (AV.v (Value.int IntKind.i64 x5)), (AV.v (Value.int IntKind.i64 x6)), (AV.v (Value.int IntKind.i64 x7)), (AV.v (Value.int IntKind.i64 x8)), (AV.v (Value.int IntKind.i64 x9)), (AV.v (Value.int IntKind.i64 x10)), (AV.v (Value.int IntKind.i64 x11)), (AV.v (Value.int IntKind.i64 x12)), (AV.v (Value.int IntKind.i64 x13)), (AV.lst 4 (List.map clA cs) Tip.no)]) self services = callsB self services x4 cs := by
  show callsB self services ((svcN (svcA x1 x2 x3 x4 x5 x6 x7 x8 x9 x10 x11 x12 x13 cs)).getD 3 0) (svcK (svcA x1 x2 x3 x4 x5 x6 x7 x8 x9 x10 x11 x12 x13 cs)) = _
  rw [svcN_some (svc_A ..), svcK_some (svc_A ..)]; rfl
theorem cqOk_A (x1 x2 x3 x4 x5 x6 x7 x8 x9 x10 x11 x12 x13 : Int) (cs : List Cl) (self services : Int) (h : cs.length ≤ 1000000) : cqOk [(AV.agg [(AV.v (Value.int IntKind.i64 x1)), (AV.v (Value.int IntKind.i64 x2)), (AV.v (Value.int IntKind.i64 x3)), (AV.v (Value.int IntKind.i64 x4)), (AV.v (Value.int IntKind.i64 x5)), (AV.v (Value.int IntKind.i64 x6)), (AV.v (Value.int IntKind.i64 x7)), (AV.v (Value.int IntKind.i64 x8)), (AV.v (Value.int IntKind.i64 x9)), (AV.v (Value.int IntKind.i64 x10)), (AV.v (Value.int IntKind.i64 x11)), (AV.v (Value.int IntKind.i64 x12)), (AV.v (Value.int IntKind.i64 x13)), (AV.lst 4 (List.map clA cs) Tip.no)]), AV.v (.int .i64 self), AV.v (.int .i64 services)] = true := by
  show (match svc? (svcA x1 x2 x3 x4 x5 x6 x7 x8 x9 x10 x11 x12 x13 cs) with | some p => decide (p.2.length ≤ 1000000) | none => false) = true
  rw [svc_A]; exact decide_eq_true h
theorem fs_ccheck {ro : Nat → Option (List Value)} (x1 x2 x3 x4 x5 x6 x7 x8 x9 x10 x11 x12 x13 : Int) (cs : List Cl) (self services levels : Int) (hl : cs.length ≤ 1000000) : Fs Tryd.prog ro 7 [svcA x1 x2 x3 x4 x5 x6 x7 x8 x9 x10 x11 x12 x13 cs, gi self, gi services, gi levels] (hp [] []) fun r _ => r = .v (.int .i64 (ccV x1 x2 x3 x4 x5 x6 x7 x8 x9 x10 x11 x12 x13 cs self services levels)) := by
  refine Fs.of_call knownE (c_check ro cqX kcV x1 x2 x3 x4 x5 x6 x7 x8 x9 x10 x11 x12 x13 cs self services levels fun r => r = .v (.int .i64 (ccV x1 x2 x3 x4 x5 x6 x7 x8 x9 x10 x11 x12 x13 cs self services levels))) ?_
  have hq := cqOk_A x1 x2 x3 x4 x5 x6 x7 x8 x9 x10 x11 x12 x13 cs self services hl
  rw [cqX_A]
  repeat' (with_reducible refine holds_bif ?_ ?_ <;> intro h <;> simp only [decide_eq_true_eq, decide_eq_false_iff_not, Bool.not_eq_true', Bool.not_eq_false', bne_iff_ne, bne_eq_false_iff_eq, ne_eq] at h)
  all_goals refine ⟨by first | with_reducible exact trivial | with_reducible exact cdb_iff.2 ⟨trivial, hq⟩, ?_⟩
  all_goals first
    | exact cc_no (fun ⟨hS, hk, hc⟩ => by unfold okS at hS; omega)
    | exact cc_no (fun ⟨hS, hk, hc⟩ => by simp_all)
    | (refine cc_yes ⟨by unfold okS; omega, by assumption, by assumption⟩)
theorem fs_crcheck {ro : Nat → Option (List Value)} (x1 x2 x3 x4 x5 x6 x7 x8 x9 x10 x11 x12 x13 : Int) (cs : List Cl) (self services levels : Int) (hl : cs.length ≤ 1000000) : Fs Tryd.prog ro 8 [svcA x1 x2 x3 x4 x5 x6 x7 x8 x9 x10 x11 x12 x13 cs, gi self, gi services, gi levels] (hp [] []) fun r _ => r = .v (.int .i64 (ccV x1 x2 x3 x4 x5 x6 x7 x8 x9 x10 x11 x12 x13 cs self services levels)) := by
  refine Fs.of_call knownE (c_rcheck ro cqX kcV x1 x2 x3 x4 x5 x6 x7 x8 x9 x10 x11 x12 x13 cs self services levels fun r => r = .v (.int .i64 (ccV x1 x2 x3 x4 x5 x6 x7 x8 x9 x10 x11 x12 x13 cs self services levels))) ?_
  have hq := cqOk_A x1 x2 x3 x4 x5 x6 x7 x8 x9 x10 x11 x12 x13 cs self services hl
  rw [cqX_A]
  repeat' (with_reducible refine holds_bif ?_ ?_ <;> intro h <;> simp only [decide_eq_true_eq, decide_eq_false_iff_not, Bool.not_eq_true', Bool.not_eq_false', bne_iff_ne, bne_eq_false_iff_eq, ne_eq] at h)
  all_goals refine ⟨by first | with_reducible exact trivial | with_reducible exact cdb_iff.2 ⟨trivial, hq⟩, ?_⟩
  all_goals first
    | exact cc_no (fun ⟨hS, hk, hc⟩ => by unfold okS at hS; omega)
    | exact cc_no (fun ⟨hS, hk, hc⟩ => by simp_all)
    | (refine cc_yes ⟨by unfold okS; omega, by assumption, by assumption⟩)
end Go.Proofs.YtkienkbaiejdmaaDoor.AE
namespace Go.Proofs.YtkienkbaiejdmaaDoor.AE
open Go.RowKit
theorem equalc_ok {ro : Nat → Option (List Value)} : ∀ args H r H', tot? (sameCV scX) scOk args H = some (r, H') → HSound1 Tryd.prog ro 36 args H r H' := by
  refine tot_ok (has_fn (by kernel_rfl)) fun args hok => ?_
  unfold scOk at hok
  split at hok
  · rename_i x y
    split at hok
    · rename_i a ha
      split at hok
      · rename_i b hb
        obtain ⟨x', h1, h2⟩ := clsA_clean ha
        obtain ⟨y', h3, h4⟩ := clsA_clean hb
        refine ⟨[x', y'], by simp only [cleans, h1, h3], ?_⟩
        refine Fs.weak ((fs_equalc a b (of_decide_eq_true hok)).mono fun r _ h => ?_) fun G W cs h => ?_
        · subst h
          refine ⟨_, rfl, ?_⟩
          show Le _ (.v (.bool (decide (clsX x = clsX y))))
          rw [clsX_some ha, clsX_some hb]
          exact Le.refl _
        · cases h with
          | cons e1 t => cases t with
            | cons e2 t => exact .cons (clsA_le h2 _ _ _ e1) (.cons (clsA_le h4 _ _ _ e2) t)
      · cases hok
    · cases hok
  · cases hok
noncomputable def prQ (SC : AV → AV → Bool) : FuncId → Option (List AV → AH → Ans) := fun g => match g with
  | 36 => some (tot? (sameCV SC) scOk)
  | _ => none
theorem knownQ {ro : Nat → Option (List Value)} : Known ro (prQ scX) := by
  intro g p h
  unfold prQ at h
  split at h
  · cases h; exact equalc_ok
  · cases h
theorem c_same (ro : Nat → Option (List Value)) (SC : AV → AV → Bool) (x1 x2 x3 x4 x5 x6 x7 x8 x9 x10 x11 x12 x13 y1 y2 y3 y4 y5 y6 y7 y8 y9 y10 y11 y12 y13 : Int) (cs ds : List Cl) (Φ : AV → Prop) : callK ro (fun _ => false) (prQ SC) 8 13 [svcA x1 x2 x3 x4 x5 x6 x7 x8 x9 x10 x11 x12 x13 cs, svcA y1 y2 y3 y4 y5 y6 y7 y8 y9 y10 y11 y12 y13 ds] (hp [] []) (fun r h => some (h.cd ∧ Φ r)) =
    (bif (x1 == y1) then (bif (x2 == y2) then (bif (x3 == y3) then (bif (x4 == y4) then (bif (x5 == y5) then (bif (x6 == y6) then (bif ((x7 == y7) && ((x8 == y8) && ((x9 == y9) && ((x10 == y10) && ((x11 == y11) && ((x12 == y12) && ((x13 == y13) && true))))))) then (some ((cdb True (scOk [(AV.lst (4 : Nat) (List.map clA cs) Tip.no), (AV.lst (4 : Nat) (List.map clA ds) Tip.no)])) ∧ (Φ (AV.v (Value.bool (SC (AV.lst (4 : Nat) (List.map clA cs) Tip.no) (AV.lst (4 : Nat) (List.map clA ds) Tip.no))))))) else (some (True ∧ (Φ (AV.v (Value.bool false)))))) else (some (True ∧ (Φ (AV.v (Value.bool false)))))) else (some (True ∧ (Φ (AV.v (Value.bool false)))))) else (some (True ∧ (Φ (AV.v (Value.bool false)))))) else (some (True ∧ (Φ (AV.v (Value.bool false)))))) else (some (True ∧ (Φ (AV.v (Value.bool false)))))) else (some (True ∧ (Φ (AV.v (Value.bool false)))))) := by kernel_rfl
end Go.Proofs.YtkienkbaiejdmaaDoor.AE
namespace Go.Proofs.YtkienkbaiejdmaaDoor.AE
open Go.RowKit
theorem fs_csame {ro : Nat → Option (List Value)} (x1 x2 x3 x4 x5 x6 x7 x8 x9 x10 x11 x12 x13 y1 y2 y3 y4 y5 y6 y7 y8 y9 y10 y11 y12 y13 : Int) (cs ds : List Cl) (h : cs.length ≤ 1000000) : Fs Tryd.prog ro 13 [svcA x1 x2 x3 x4 x5 x6 x7 x8 x9 x10 x11 x12 x13 cs, svcA y1 y2 y3 y4 y5 y6 y7 y8 y9 y10 y11 y12 y13 ds] (hp [] []) fun r _ => r = .v (.bool (svcE [x1, x2, x3, x4, x5, x6, x7, x8, x9, x10, x11, x12, x13] cs [y1, y2, y3, y4, y5, y6, y7, y8, y9, y10, y11, y12, y13] ds)) := by
  have hk := scOk_of cs ds .no .no h
  refine Fs.of_call knownQ (c_same ro scX x1 x2 x3 x4 x5 x6 x7 x8 x9 x10 x11 x12 x13 y1 y2 y3 y4 y5 y6 y7 y8 y9 y10 y11 y12 y13 cs ds fun r => r = .v (.bool (svcE [x1, x2, x3, x4, x5, x6, x7, x8, x9, x10, x11, x12, x13] cs [y1, y2, y3, y4, y5, y6, y7, y8, y9, y10, y11, y12, y13] ds))) ?_
  refine holds_bif (fun h1 => holds_bif (fun h2 => holds_bif (fun h3 => holds_bif (fun h4 => holds_bif (fun h5 => holds_bif (fun h6 => holds_bif (fun h7 => ⟨by with_reducible exact cdb_iff.2 ⟨trivial, hk⟩, ?_⟩) fun h7 => ⟨trivial, ?_⟩) fun h6 => ⟨trivial, sv_no6 h6⟩) fun h5 => ⟨trivial, sv_no5 h5⟩) fun h4 => ⟨trivial, sv_no4 h4⟩) fun h3 => ⟨trivial, sv_no3 h3⟩) fun h2 => ⟨trivial, sv_no2 h2⟩) fun h1 => ⟨trivial, sv_no1 h1⟩
  · unfold svcE
    rw [lists_eq, h1, h2, h3, h4, h5, h6, h7]
    show AV.v (.bool (decide (clsX (.lst 4 (cs.map clA) .no) = clsX (.lst 4 (ds.map clA) .no)))) = _
    rw [clsX_lst, clsX_lst]
    simp only [Bool.true_and]
  · unfold svcE
    rw [lists_eq, h1, h2, h3, h4, h5, h6, h7]
    simp only [Bool.true_and, Bool.false_and]
end Go.Proofs.YtkienkbaiejdmaaDoor.AE
namespace Go.Proofs.YtkienkbaiejdmaaDoor.AE
open Go.RowKit
theorem csame_ok {ro : Nat → Option (List Value)} : ∀ args H r H', tot? (ssV ssX) ssOk args H = some (r, H') → HSound1 Tryd.prog ro 13 args H r H' := by
  refine tot_ok (has_fn (by kernel_rfl)) fun args hok => ?_
  unfold ssOk at hok
  split at hok
  · rename_i x y
    split at hok
    · rename_i p hp
      split at hok
      · rename_i q hq
        obtain ⟨zs, cs⟩ := p
        obtain ⟨ws, ds⟩ := q
        obtain ⟨x', h1, h2⟩ := svc_clean hp
        obtain ⟨y', h3, h4⟩ := svc_clean hq
        obtain ⟨x1, x2, x3, x4, x5, x6, x7, x8, x9, x10, x11, x12, x13, rfl⟩ := list13 (svc_cells hp).1
        obtain ⟨y1, y2, y3, y4, y5, y6, y7, y8, y9, y10, y11, y12, y13, rfl⟩ := list13 (svc_cells hq).1
        refine ⟨[x', y'], by simp only [cleans, h1, h3], ?_⟩
        refine Fs.weak ((fs_csame x1 x2 x3 x4 x5 x6 x7 x8 x9 x10 x11 x12 x13 y1 y2 y3 y4 y5 y6 y7 y8 y9 y10 y11 y12 y13 cs ds (of_decide_eq_true hok)).mono fun r _ h => ?_) fun G W cs h => ?_
        · subst h
          refine ⟨_, rfl, ?_⟩
          show Le _ (.v (.bool (svcE (svcN x) (svcK x) (svcN y) (svcK y))))
          rw [svcN_some hp, svcK_some hp, svcN_some hq, svcK_some hq]
          exact Le.refl _
        · cases h with
          | cons e1 t => cases t with
            | cons e2 t => exact .cons (svc_le h2 _ _ _ e1) (.cons (svc_le h4 _ _ _ e2) t)
      · cases hok
    · cases hok
  · cases hok
def chV (CC : AV → Int → Int → Int → Int) (args : List AV) : AV := .v (.int .i64 (CC (args.headD .dead) (exInt (args.tail.headD .dead)) (exInt (args.tail.tail.headD .dead)) (exInt (args.tail.tail.tail.headD .dead))))
def chOk (args : List AV) : Bool := match args with
  | [x, .v (.int .i64 _), .v (.int .i64 _), .v (.int .i64 _)] => match svc? x with
    | some p => decide (p.2.length ≤ 1000000)
    | none => false
  | _ => false
def chL (zs : List Int) (cs : List Cl) (a b c : Int) : Int := match zs with
  | [x1, x2, x3, x4, x5, x6, x7, x8, x9, x10, x11, x12, x13] => ccV x1 x2 x3 x4 x5 x6 x7 x8 x9 x10 x11 x12 x13 cs a b c
  | _ => 0
def chX (x : AV) (a b c : Int) : Int := chL (svcN x) (svcK x) a b c
theorem ch_ok {ro : Nat → Option (List Value)} {g : FuncId} (hf : ∃ fn, Tryd.prog.funcs[g]? = some fn ∧ fn.body.isSome = true) (hs : ∀ (x1 x2 x3 x4 x5 x6 x7 x8 x9 x10 x11 x12 x13 : Int) (cs : List Cl) (self services levels : Int), cs.length ≤ 1000000 → Fs Tryd.prog ro g [svcA x1 x2 x3 x4 x5 x6 x7 x8 x9 x10 x11 x12 x13 cs, gi self, gi services, gi levels] (hp [] []) fun r _ => r = .v (.int .i64 (ccV x1 x2 x3 x4 x5 x6 x7 x8 x9 x10 x11 x12 x13 cs self services levels))) :
    ∀ args H r H', tot? (chV chX) chOk args H = some (r, H') → HSound1 Tryd.prog ro g args H r H' := by
  refine tot_ok hf fun args hok => ?_
  unfold chOk at hok
  split at hok
  · rename_i x self services levels
    split at hok
    · rename_i p hp
      obtain ⟨zs, cs⟩ := p
      have hok := of_decide_eq_true hok
      obtain ⟨x', h1, h2⟩ := svc_clean hp
      obtain ⟨x1, x2, x3, x4, x5, x6, x7, x8, x9, x10, x11, x12, x13, rfl⟩ := list13 (svc_cells hp).1
      refine ⟨[x', gi self, gi services, gi levels], by simp only [cleans, h1]; rfl, ?_⟩
      refine Fs.weak ((hs x1 x2 x3 x4 x5 x6 x7 x8 x9 x10 x11 x12 x13 cs self services levels hok).mono fun r _ h => ?_) fun G W cs h => ?_
      · subst h
        refine ⟨_, rfl, ?_⟩
        show Le _ (.v (.int .i64 (chL (svcN x) (svcK x) self services levels)))
        rw [svcN_some hp, svcK_some hp]
        exact Le.refl _
      · cases h with
        | cons e1 t => exact .cons (svc_le h2 _ _ _ e1) t
    · cases hok
  · cases hok
def smV (SM : AV → Bool → List Cl) (args : List AV) : AV := .lst 4 ((SM (args.headD .dead) (exBool (args.tail.headD .dead))).map clA) .no
def smOk (args : List AV) : Bool := match args with
  | [x, .v (.bool _)] => match clsA? x with
    | some l => decide (l.length ≤ 1000000)
    | none => false
  | _ => false
def smX (x : AV) (b : Bool) : List Cl := (clsX x).filter (isSm b)
theorem smOk_of (cs : List Cl) (t : Tip) (b : Bool) (h : cs.length ≤ 1000000) : smOk [.lst 4 (cs.map clA) t, .v (.bool b)] = true := by
  show (match clsA? (.lst 4 (cs.map clA) t) with | some l => decide (l.length ≤ 1000000) | none => false) = true
  rw [clsA_lst]; exact decide_eq_true h
theorem some_ok28 {ro : Nat → Option (List Value)} : ∀ args H r H', tot? (smV smX) smOk args H = some (r, H') → HSound1 Tryd.prog ro 11 args H r H' := by
  refine tot_ok (has_fn (by kernel_rfl)) fun args hok => ?_
  unfold smOk at hok
  split at hok
  · rename_i x b
    split at hok
    · rename_i l hl
      obtain ⟨x', h1, h2⟩ := clsA_clean hl
      refine ⟨[x', .v (.bool b)], by simp only [cleans, h1]; rfl, ?_⟩
      refine Fs.weak ((fs_some b l (of_decide_eq_true hok)).mono fun r _ h => ?_) fun G W cs h => ?_
      · refine ⟨_, h, ?_⟩
        show Le _ (.lst 4 (((clsX x).filter (isSm b)).map clA) .no)
        rw [clsX_some hl]
        exact Le.refl _
      · cases h with
        | cons e1 t => exact .cons (clsA_le h2 _ _ _ e1) t
    · cases hok
  · cases hok
structure CS where
  cc : AV → Int → Int → Int → Int
  ss : AV → AV → Bool
  sc : AV → AV → Bool
  rq : AV → List Cl
  oq : AV → List Cl
  sm : AV → Bool → List Cl
noncomputable def prZ (S : CS) : FuncId → Option (List AV → AH → Ans) := fun g => match g with
  | 7 => some (tot? (chV S.cc) chOk)
  | 8 => some (tot? (chV S.cc) chOk)
  | 13 => some (tot? (ssV S.ss) ssOk)
  | 14 => some (tot? (ssV S.ss) ssOk)
  | 9 => some (tot? (sameCV S.sc) scOk)
  | 10 => some (tot? (rqV S.rq) rqOk)
  | 12 => some (tot? (rqV S.oq) rqOk)
  | 11 => some (tot? (smV S.sm) smOk)
  | 6 => some (pure? awakeS)
  | _ => none
def csx : CS := ⟨chX, ssX, scX, rqX, rqY, smX⟩
section
variable {tS tR : TypeId} {pS pR : Value}
theorem knownZ : Known (roN tS pS tR pR) (prZ csx) := by
  intro g p h
  unfold prZ at h
  split at h
  · cases h; exact ch_ok (has_fn (by kernel_rfl)) fs_ccheck
  · cases h; exact ch_ok (has_fn (by kernel_rfl)) fs_crcheck
  · cases h; exact csame_ok
  · cases h; exact ss_ok
  · cases h; exact samec_ok
  · cases h; exact req_ok
  · cases h; exact opt_ok
  · cases h; exact some_ok28
  · cases h; exact awake_ok28
  · cases h
end
end Go.Proofs.YtkienkbaiejdmaaDoor.AE
namespace Go.Proofs.YtkienkbaiejdmaaDoor.AE
open Go.RowKit
theorem t_checks (S : CS) (tS tR : TypeId) (pS pR : Value) (x1 x2 x3 x4 x5 x6 x7 x8 x9 x10 x11 x12 x13 y1 y2 y3 y4 y5 y6 y7 y8 y9 y10 y11 y12 y13 : Int) (cs ds : List Cl) (a b c : Int) (Φ : AV → Prop) : callK (roN tS pS tR pR) (fun _ => false) (prZ S) 8 3 [svcA x1 x2 x3 x4 x5 x6 x7 x8 x9 x10 x11 x12 x13 cs, svcA y1 y2 y3 y4 y5 y6 y7 y8 y9 y10 y11 y12 y13 ds, .v (.agg #[.int .i64 a, .int .i64 b, .int .i64 c])] (hp [] []) (fun r h => some (h.cd ∧ Φ r)) =
    (bif (decide ((20 : Int) < ((List.length (List.map clA cs)) : Int))) then (some (True ∧ (Φ (AV.v (Value.bool true))))) else (bif (decide ((20 : Int) < ((List.length (List.map clA ds)) : Int))) then (some (True ∧ (Φ (AV.v (Value.bool true))))) else (bif (((S).1 (AV.agg [(AV.v (Value.int IntKind.i64 x1)), (AV.v (Value.int IntKind.i64 x2)), (AV.v (Value.int IntKind.i64 x3)), (AV.v (Value.int IntKind.i64 x4)), (AV.v (Value.int IntKind.i64 x5)), (AV.v (Value.int IntKind.i64 x6)), (AV.v (Value.int IntKind.i64 x7)), (AV.v (Value.int IntKind.i64 x8)), (AV.v (Value.int IntKind.i64 x9)), (AV.v (Value.int IntKind.i64 x10)), (AV.v (Value.int IntKind.i64 x11)), (AV.v (Value.int IntKind.i64 x12)), (AV.v (Value.int IntKind.i64 x13)), (AV.lst (4 : Nat) (List.map clA cs) Tip.no)]) a b c) == ((S).1 (AV.agg [(AV.v (Value.int IntKind.i64 x1)), (AV.v (Value.int IntKind.i64 x2)), (AV.v (Value.int IntKind.i64 x3)), (AV.v (Value.int IntKind.i64 x4)), (AV.v (Value.int IntKind.i64 x5)), (AV.v (Value.int IntKind.i64 x6)), (AV.v (Value.int IntKind.i64 x7)), (AV.v (Value.int IntKind.i64 x8)), (AV.v (Value.int IntKind.i64 x9)), (AV.v (Value.int IntKind.i64 x10)), (AV.v (Value.int IntKind.i64 x11)), (AV.v (Value.int IntKind.i64 x12)), (AV.v (Value.int IntKind.i64 x13)), (AV.lst (4 : Nat) (List.map clA cs) Tip.no)]) a b c)) then (bif ((S).3 (AV.lst (4 : Nat) (List.map clA ((S).4 (AV.agg [(AV.v (Value.int IntKind.i64 x1)), (AV.v (Value.int IntKind.i64 x2)), (AV.v (Value.int IntKind.i64 x3)), (AV.v (Value.int IntKind.i64 x4)), (AV.v (Value.int IntKind.i64 x5)), (AV.v (Value.int IntKind.i64 x6)), (AV.v (Value.int IntKind.i64 x7)), (AV.v (Value.int IntKind.i64 x8)), (AV.v (Value.int IntKind.i64 x9)), (AV.v (Value.int IntKind.i64 x10)), (AV.v (Value.int IntKind.i64 x11)), (AV.v (Value.int IntKind.i64 x12)), (AV.v (Value.int IntKind.i64 x13)), (AV.lst (4 : Nat) (List.map clA cs) Tip.no)]))) Tip.no) (AV.lst (4 : Nat) (List.map clA ((S).6 (AV.lst (4 : Nat) (List.map clA cs) Tip.no) true)) Tip.no)) then (bif ((S).3 (AV.lst (4 : Nat) (List.map clA ((S).5 (AV.agg [(AV.v (Value.int IntKind.i64 x1)), (AV.v (Value.int IntKind.i64 x2)), (AV.v (Value.int IntKind.i64 x3)), (AV.v (Value.int IntKind.i64 x4)), (AV.v (Value.int IntKind.i64 x5)), (AV.v (Value.int IntKind.i64 x6)), (AV.v (Value.int IntKind.i64 x7)), (AV.v (Value.int IntKind.i64 x8)), (AV.v (Value.int IntKind.i64 x9)), (AV.v (Value.int IntKind.i64 x10)), (AV.v (Value.int IntKind.i64 x11)), (AV.v (Value.int IntKind.i64 x12)), (AV.v (Value.int IntKind.i64 x13)), (AV.lst (4 : Nat) (List.map clA cs) Tip.no)]))) Tip.no) (AV.lst (4 : Nat) (List.map clA ((S).6 (AV.lst (4 : Nat) (List.map clA cs) Tip.no) false)) Tip.no)) then (bif (((S).2 (AV.agg [(AV.v (Value.int IntKind.i64 x1)), (AV.v (Value.int IntKind.i64 x2)), (AV.v (Value.int IntKind.i64 x3)), (AV.v (Value.int IntKind.i64 x4)), (AV.v (Value.int IntKind.i64 x5)), (AV.v (Value.int IntKind.i64 x6)), (AV.v (Value.int IntKind.i64 x7)), (AV.v (Value.int IntKind.i64 x8)), (AV.v (Value.int IntKind.i64 x9)), (AV.v (Value.int IntKind.i64 x10)), (AV.v (Value.int IntKind.i64 x11)), (AV.v (Value.int IntKind.i64 x12)), (AV.v (Value.int IntKind.i64 x13)), (AV.lst (4 : Nat) (List.map clA cs) Tip.no)]) (AV.agg [(AV.v (Value.int IntKind.i64 y1)), (AV.v (Value.int IntKind.i64 y2)), (AV.v (Value.int IntKind.i64 y3)), (AV.v (Value.int IntKind.i64 y4)), (AV.v (Value.int IntKind.i64 y5)), (AV.v (Value.int IntKind.i64 y6)), (AV.v (Value.int IntKind.i64 y7)), (AV.v (Value.int IntKind.i64 y8)), (AV.v (Value.int IntKind.i64 y9)), (AV.v (Value.int IntKind.i64 y10)), (AV.v (Value.int IntKind.i64 y11)), (AV.v (Value.int IntKind.i64 y12)), (AV.v (Value.int IntKind.i64 y13)), (AV.lst (4 : Nat) (List.map clA ds) Tip.no)])) == ((S).2 (AV.agg [(AV.v (Value.int IntKind.i64 x1)), (AV.v (Value.int IntKind.i64 x2)), (AV.v (Value.int IntKind.i64 x3)), (AV.v (Value.int IntKind.i64 x4)), (AV.v (Value.int IntKind.i64 x5)), (AV.v (Value.int IntKind.i64 x6)), (AV.v (Value.int IntKind.i64 x7)), (AV.v (Value.int IntKind.i64 x8)), (AV.v (Value.int IntKind.i64 x9)), (AV.v (Value.int IntKind.i64 x10)), (AV.v (Value.int IntKind.i64 x11)), (AV.v (Value.int IntKind.i64 x12)), (AV.v (Value.int IntKind.i64 x13)), (AV.lst (4 : Nat) (List.map clA cs) Tip.no)]) (AV.agg [(AV.v (Value.int IntKind.i64 y1)), (AV.v (Value.int IntKind.i64 y2)), (AV.v (Value.int IntKind.i64 y3)), (AV.v (Value.int IntKind.i64 y4)), (AV.v (Value.int IntKind.i64 y5)), (AV.v (Value.int IntKind.i64 y6)), (AV.v (Value.int IntKind.i64 y7)), (AV.v (Value.int IntKind.i64 y8)), (AV.v (Value.int IntKind.i64 y9)), (AV.v (Value.int IntKind.i64 y10)), (AV.v (Value.int IntKind.i64 y11)), (AV.v (Value.int IntKind.i64 y12)), (AV.v (Value.int IntKind.i64 y13)), (AV.lst (4 : Nat) (List.map clA ds) Tip.no)]))) then (bif ((S).2 (AV.agg [(AV.v (Value.int IntKind.i64 x1)), (AV.v (Value.int IntKind.i64 x2)), (AV.v (Value.int IntKind.i64 x3)), (AV.v (Value.int IntKind.i64 x4)), (AV.v (Value.int IntKind.i64 x5)), (AV.v (Value.int IntKind.i64 x6)), (AV.v (Value.int IntKind.i64 x7)), (AV.v (Value.int IntKind.i64 x8)), (AV.v (Value.int IntKind.i64 x9)), (AV.v (Value.int IntKind.i64 x10)), (AV.v (Value.int IntKind.i64 x11)), (AV.v (Value.int IntKind.i64 x12)), (AV.v (Value.int IntKind.i64 x13)), (AV.lst (4 : Nat) (List.map clA cs) Tip.no)]) (AV.agg [(AV.v (Value.int IntKind.i64 x1)), (AV.v (Value.int IntKind.i64 x2)), (AV.v (Value.int IntKind.i64 x3)), (AV.v (Value.int IntKind.i64 x4)), (AV.v (Value.int IntKind.i64 x5)), (AV.v (Value.int IntKind.i64 x6)), (AV.v (Value.int IntKind.i64 x7)), (AV.v (Value.int IntKind.i64 x8)), (AV.v (Value.int IntKind.i64 x9)), (AV.v (Value.int IntKind.i64 x10)), (AV.v (Value.int IntKind.i64 x11)), (AV.v (Value.int IntKind.i64 x12)), (AV.v (Value.int IntKind.i64 x13)), (AV.lst (4 : Nat) (List.map clA cs) Tip.no)])) then (some ((cdb (cdb (cdb (cdb (cdb (cdb (cdb (cdb (cdb (cdb (cdb True (chOk [(AV.agg [(AV.v (Value.int IntKind.i64 x1)), (AV.v (Value.int IntKind.i64 x2)), (AV.v (Value.int IntKind.i64 x3)), (AV.v (Value.int IntKind.i64 x4)), (AV.v (Value.int IntKind.i64 x5)), (AV.v (Value.int IntKind.i64 x6)), (AV.v (Value.int IntKind.i64 x7)), (AV.v (Value.int IntKind.i64 x8)), (AV.v (Value.int IntKind.i64 x9)), (AV.v (Value.int IntKind.i64 x10)), (AV.v (Value.int IntKind.i64 x11)), (AV.v (Value.int IntKind.i64 x12)), (AV.v (Value.int IntKind.i64 x13)), (AV.lst (4 : Nat) (List.map clA cs) Tip.no)]), (AV.v (Value.int IntKind.i64 a)), (AV.v (Value.int IntKind.i64 b)), (AV.v (Value.int IntKind.i64 c))])) (chOk [(AV.agg [(AV.v (Value.int IntKind.i64 x1)), (AV.v (Value.int IntKind.i64 x2)), (AV.v (Value.int IntKind.i64 x3)), (AV.v (Value.int IntKind.i64 x4)), (AV.v (Value.int IntKind.i64 x5)), (AV.v (Value.int IntKind.i64 x6)), (AV.v (Value.int IntKind.i64 x7)), (AV.v (Value.int IntKind.i64 x8)), (AV.v (Value.int IntKind.i64 x9)), (AV.v (Value.int IntKind.i64 x10)), (AV.v (Value.int IntKind.i64 x11)), (AV.v (Value.int IntKind.i64 x12)), (AV.v (Value.int IntKind.i64 x13)), (AV.lst (4 : Nat) (List.map clA cs) Tip.no)]), (AV.v (Value.int IntKind.i64 a)), (AV.v (Value.int IntKind.i64 b)), (AV.v (Value.int IntKind.i64 c))])) (rqOk [(AV.agg [(AV.v (Value.int IntKind.i64 x1)), (AV.v (Value.int IntKind.i64 x2)), (AV.v (Value.int IntKind.i64 x3)), (AV.v (Value.int IntKind.i64 x4)), (AV.v (Value.int IntKind.i64 x5)), (AV.v (Value.int IntKind.i64 x6)), (AV.v (Value.int IntKind.i64 x7)), (AV.v (Value.int IntKind.i64 x8)), (AV.v (Value.int IntKind.i64 x9)), (AV.v (Value.int IntKind.i64 x10)), (AV.v (Value.int IntKind.i64 x11)), (AV.v (Value.int IntKind.i64 x12)), (AV.v (Value.int IntKind.i64 x13)), (AV.lst (4 : Nat) (List.map clA cs) Tip.no)])])) (smOk [(AV.lst (4 : Nat) (List.map clA cs) Tip.no), (AV.v (Value.bool true))])) (scOk [(AV.lst (4 : Nat) (List.map clA ((S).4 (AV.agg [(AV.v (Value.int IntKind.i64 x1)), (AV.v (Value.int IntKind.i64 x2)), (AV.v (Value.int IntKind.i64 x3)), (AV.v (Value.int IntKind.i64 x4)), (AV.v (Value.int IntKind.i64 x5)), (AV.v (Value.int IntKind.i64 x6)), (AV.v (Value.int IntKind.i64 x7)), (AV.v (Value.int IntKind.i64 x8)), (AV.v (Value.int IntKind.i64 x9)), (AV.v (Value.int IntKind.i64 x10)), (AV.v (Value.int IntKind.i64 x11)), (AV.v (Value.int IntKind.i64 x12)), (AV.v (Value.int IntKind.i64 x13)), (AV.lst (4 : Nat) (List.map clA cs) Tip.no)]))) Tip.no), (AV.lst (4 : Nat) (List.map clA ((S).6 (AV.lst (4 : Nat) (List.map clA cs) Tip.no) true)) Tip.no)])) (rqOk [(AV.agg [(AV.v (Value.int IntKind.i64 x1)), (AV.v (Value.int IntKind.i64 x2)), (AV.v (Value.int IntKind.i64 x3)), (AV.v (Value.int IntKind.i64 x4)), (AV.v (Value.int IntKind.i64 x5)), (AV.v (Value.int IntKind.i64 x6)), (AV.v (Value.int IntKind.i64 x7)), (AV.v (Value.int IntKind.i64 x8)), (AV.v (Value.int IntKind.i64 x9)), (AV.v (Value.int IntKind.i64 x10)), (AV.v (Value.int IntKind.i64 x11)), (AV.v (Value.int IntKind.i64 x12)), (AV.v (Value.int IntKind.i64 x13)), (AV.lst (4 : Nat) (List.map clA cs) Tip.no)])])) (smOk [(AV.lst (4 : Nat) (List.map clA cs) Tip.no), (AV.v (Value.bool false))])) (scOk [(AV.lst (4 : Nat) (List.map clA ((S).5 (AV.agg [(AV.v (Value.int IntKind.i64 x1)), (AV.v (Value.int IntKind.i64 x2)), (AV.v (Value.int IntKind.i64 x3)), (AV.v (Value.int IntKind.i64 x4)), (AV.v (Value.int IntKind.i64 x5)), (AV.v (Value.int IntKind.i64 x6)), (AV.v (Value.int IntKind.i64 x7)), (AV.v (Value.int IntKind.i64 x8)), (AV.v (Value.int IntKind.i64 x9)), (AV.v (Value.int IntKind.i64 x10)), (AV.v (Value.int IntKind.i64 x11)), (AV.v (Value.int IntKind.i64 x12)), (AV.v (Value.int IntKind.i64 x13)), (AV.lst (4 : Nat) (List.map clA cs) Tip.no)]))) Tip.no), (AV.lst (4 : Nat) (List.map clA ((S).6 (AV.lst (4 : Nat) (List.map clA cs) Tip.no) false)) Tip.no)])) (ssOk [(AV.agg [(AV.v (Value.int IntKind.i64 x1)), (AV.v (Value.int IntKind.i64 x2)), (AV.v (Value.int IntKind.i64 x3)), (AV.v (Value.int IntKind.i64 x4)), (AV.v (Value.int IntKind.i64 x5)), (AV.v (Value.int IntKind.i64 x6)), (AV.v (Value.int IntKind.i64 x7)), (AV.v (Value.int IntKind.i64 x8)), (AV.v (Value.int IntKind.i64 x9)), (AV.v (Value.int IntKind.i64 x10)), (AV.v (Value.int IntKind.i64 x11)), (AV.v (Value.int IntKind.i64 x12)), (AV.v (Value.int IntKind.i64 x13)), (AV.lst (4 : Nat) (List.map clA cs) Tip.no)]), (AV.agg [(AV.v (Value.int IntKind.i64 y1)), (AV.v (Value.int IntKind.i64 y2)), (AV.v (Value.int IntKind.i64 y3)), (AV.v (Value.int IntKind.i64 y4)), (AV.v (Value.int IntKind.i64 y5)), (AV.v (Value.int IntKind.i64 y6)), (AV.v (Value.int IntKind.i64 y7)), (AV.v (Value.int IntKind.i64 y8)), (AV.v (Value.int IntKind.i64 y9)), (AV.v (Value.int IntKind.i64 y10)), (AV.v (Value.int IntKind.i64 y11)), (AV.v (Value.int IntKind.i64 y12)), (AV.v (Value.int IntKind.i64 y13)), (AV.lst (4 : Nat) (List.map clA ds) Tip.no)])])) (ssOk [(AV.agg [(AV.v (Value.int IntKind.i64 x1)), (AV.v (Value.int IntKind.i64 x2)), (AV.v (Value.int IntKind.i64 x3)), (AV.v (Value.int IntKind.i64 x4)), (AV.v (Value.int IntKind.i64 x5)), (AV.v (Value.int IntKind.i64 x6)), (AV.v (Value.int IntKind.i64 x7)), (AV.v (Value.int IntKind.i64 x8)), (AV.v (Value.int IntKind.i64 x9)), (AV.v (Value.int IntKind.i64 x10)), (AV.v (Value.int IntKind.i64 x11)), (AV.v (Value.int IntKind.i64 x12)), (AV.v (Value.int IntKind.i64 x13)), (AV.lst (4 : Nat) (List.map clA cs) Tip.no)]), (AV.agg [(AV.v (Value.int IntKind.i64 y1)), (AV.v (Value.int IntKind.i64 y2)), (AV.v (Value.int IntKind.i64 y3)), (AV.v (Value.int IntKind.i64 y4)), (AV.v (Value.int IntKind.i64 y5)), (AV.v (Value.int IntKind.i64 y6)), (AV.v (Value.int IntKind.i64 y7)), (AV.v (Value.int IntKind.i64 y8)), (AV.v (Value.int IntKind.i64 y9)), (AV.v (Value.int IntKind.i64 y10)), (AV.v (Value.int IntKind.i64 y11)), (AV.v (Value.int IntKind.i64 y12)), (AV.v (Value.int IntKind.i64 y13)), (AV.lst (4 : Nat) (List.map clA ds) Tip.no)])])) (ssOk [(AV.agg [(AV.v (Value.int IntKind.i64 x1)), (AV.v (Value.int IntKind.i64 x2)), (AV.v (Value.int IntKind.i64 x3)), (AV.v (Value.int IntKind.i64 x4)), (AV.v (Value.int IntKind.i64 x5)), (AV.v (Value.int IntKind.i64 x6)), (AV.v (Value.int IntKind.i64 x7)), (AV.v (Value.int IntKind.i64 x8)), (AV.v (Value.int IntKind.i64 x9)), (AV.v (Value.int IntKind.i64 x10)), (AV.v (Value.int IntKind.i64 x11)), (AV.v (Value.int IntKind.i64 x12)), (AV.v (Value.int IntKind.i64 x13)), (AV.lst (4 : Nat) (List.map clA cs) Tip.no)]), (AV.agg [(AV.v (Value.int IntKind.i64 x1)), (AV.v (Value.int IntKind.i64 x2)), (AV.v (Value.int IntKind.i64 x3)), (AV.v (Value.int IntKind.i64 x4)), (AV.v (Value.int IntKind.i64 x5)), (AV.v (Value.int IntKind.i64 x6)), (AV.v (Value.int IntKind.i64 x7)), (AV.v (Value.int IntKind.i64 x8)), (AV.v (Value.int IntKind.i64 x9)), (AV.v (Value.int IntKind.i64 x10)), (AV.v (Value.int IntKind.i64 x11)), (AV.v (Value.int IntKind.i64 x12)), (AV.v (Value.int IntKind.i64 x13)), (AV.lst (4 : Nat) (List.map clA cs) Tip.no)])])) ∧ (Φ (AV.v (Value.bool true))))) else (some ((cdb (cdb (cdb (cdb (cdb (cdb (cdb (cdb (cdb (cdb (cdb True (chOk [(AV.agg [(AV.v (Value.int IntKind.i64 x1)), (AV.v (Value.int IntKind.i64 x2)), (AV.v (Value.int IntKind.i64 x3)), (AV.v (Value.int IntKind.i64 x4)), (AV.v (Value.int IntKind.i64 x5)), (AV.v (Value.int IntKind.i64 x6)), (AV.v (Value.int IntKind.i64 x7)), (AV.v (Value.int IntKind.i64 x8)), (AV.v (Value.int IntKind.i64 x9)), (AV.v (Value.int IntKind.i64 x10)), (AV.v (Value.int IntKind.i64 x11)), (AV.v (Value.int IntKind.i64 x12)), (AV.v (Value.int IntKind.i64 x13)), (AV.lst (4 : Nat) (List.map clA cs) Tip.no)]), (AV.v (Value.int IntKind.i64 a)), (AV.v (Value.int IntKind.i64 b)), (AV.v (Value.int IntKind.i64 c))])) (chOk [(AV.agg [(AV.v (Value.int IntKind.i64 x1)), (AV.v (Value.int IntKind.i64 x2)), (AV.v (Value.int IntKind.i64 x3)), (AV.v (Value.int IntKind.i64 x4)), (AV.v (Value.int IntKind.i64 x5)), (AV.v (Value.int IntKind.i64 x6)), (AV.v (Value.int IntKind.i64 x7)), (AV.v (Value.int IntKind.i64 x8)), (AV.v (Value.int IntKind.i64 x9)), (AV.v (Value.int IntKind.i64 x10)), (AV.v (Value.int IntKind.i64 x11)), (AV.v (Value.int IntKind.i64 x12)), (AV.v (Value.int IntKind.i64 x13)), (AV.lst (4 : Nat) (List.map clA cs) Tip.no)]), (AV.v (Value.int IntKind.i64 a)), (AV.v (Value.int IntKind.i64 b)), (AV.v (Value.int IntKind.i64 c))])) (rqOk [(AV.agg [(AV.v (Value.int IntKind.i64 x1)), (AV.v (Value.int IntKind.i64 x2)), (AV.v (Value.int IntKind.i64 x3)), (AV.v (Value.int IntKind.i64 x4)), (AV.v (Value.int IntKind.i64 x5)), (AV.v (Value.int IntKind.i64 x6)), (AV.v (Value.int IntKind.i64 x7)), (AV.v (Value.int IntKind.i64 x8)), (AV.v (Value.int IntKind.i64 x9)), (AV.v (Value.int IntKind.i64 x10)), (AV.v (Value.int IntKind.i64 x11)), (AV.v (Value.int IntKind.i64 x12)), (AV.v (Value.int IntKind.i64 x13)), (AV.lst (4 : Nat) (List.map clA cs) Tip.no)])])) (smOk [(AV.lst (4 : Nat) (List.map clA cs) Tip.no), (AV.v (Value.bool true))])) (scOk [(AV.lst (4 : Nat) (List.map clA ((S).4 (AV.agg [(AV.v (Value.int IntKind.i64 x1)), (AV.v (Value.int IntKind.i64 x2)), (AV.v (Value.int IntKind.i64 x3)), (AV.v (Value.int IntKind.i64 x4)), (AV.v (Value.int IntKind.i64 x5)), (AV.v (Value.int IntKind.i64 x6)), (AV.v (Value.int IntKind.i64 x7)), (AV.v (Value.int IntKind.i64 x8)), (AV.v (Value.int IntKind.i64 x9)), (AV.v (Value.int IntKind.i64 x10)), (AV.v (Value.int IntKind.i64 x11)), (AV.v (Value.int IntKind.i64 x12)), (AV.v (Value.int IntKind.i64 x13)), (AV.lst (4 : Nat) (List.map clA cs) Tip.no)]))) Tip.no), (AV.lst (4 : Nat) (List.map clA ((S).6 (AV.lst (4 : Nat) (List.map clA cs) Tip.no) true)) Tip.no)])) (rqOk [(AV.agg [(AV.v (Value.int IntKind.i64 x1)), (AV.v (Value.int IntKind.i64 x2)), (AV.v (Value.int IntKind.i64 x3)), (AV.v (Value.int IntKind.i64 x4)), (AV.v (Value.int IntKind.i64 x5)), (AV.v (Value.int IntKind.i64 x6)), (AV.v (Value.int IntKind.i64 x7)), (AV.v (Value.int IntKind.i64 x8)), (AV.v (Value.int IntKind.i64 x9)), (AV.v (Value.int IntKind.i64 x10)), (AV.v (Value.int IntKind.i64 x11)), (AV.v (Value.int IntKind.i64 x12)), (AV.v (Value.int IntKind.i64 x13)), (AV.lst (4 : Nat) (List.map clA cs) Tip.no)])])) (smOk [(AV.lst (4 : Nat) (List.map clA cs) Tip.no), (AV.v (Value.bool false))])) (scOk [(AV.lst (4 : Nat) (List.map clA ((S).5 (AV.agg [(AV.v (Value.int IntKind.i64 x1)), (AV.v (Value.int IntKind.i64 x2)), (AV.v (Value.int IntKind.i64 x3)), (AV.v (Value.int IntKind.i64 x4)), (AV.v (Value.int IntKind.i64 x5)), (AV.v (Value.int IntKind.i64 x6)), (AV.v (Value.int IntKind.i64 x7)), (AV.v (Value.int IntKind.i64 x8)), (AV.v (Value.int IntKind.i64 x9)), (AV.v (Value.int IntKind.i64 x10)), (AV.v (Value.int IntKind.i64 x11)), (AV.v (Value.int IntKind.i64 x12)), (AV.v (Value.int IntKind.i64 x13)), (AV.lst (4 : Nat) (List.map clA cs) Tip.no)]))) Tip.no), (AV.lst (4 : Nat) (List.map clA ((S).6 (AV.lst (4 : Nat) (List.map clA cs) Tip.no) false)) Tip.no)])) (ssOk [(AV.agg [(AV.v (Value.int IntKind.i64 x1)), (AV.v (Value.int IntKind.i64 x2)), (AV.v (Value.int IntKind.i64 x3)), (AV.v (Value.int IntKind.i64 x4)), (AV.v (Value.int IntKind.i64 x5)), (AV.v (Value.int IntKind.i64 x6)), (AV.v (Value.int IntKind.i64 x7)), (AV.v (Value.int IntKind.i64 x8)), (AV.v (Value.int IntKind.i64 x9)), (AV.v (Value.int IntKind.i64 x10)), (AV.v (Value.int IntKind.i64 x11)), (AV.v (Value.int IntKind.i64 x12)), (AV.v (Value.int IntKind.i64 x13)), (AV.lst (4 : Nat) (List.map clA cs) Tip.no)]), (AV.agg [(AV.v (Value.int IntKind.i64 y1)), (AV.v (Value.int IntKind.i64 y2)), (AV.v (Value.int IntKind.i64 y3)), (AV.v (Value.int IntKind.i64 y4)), (AV.v (Value.int IntKind.i64 y5)), (AV.v (Value.int IntKind.i64 y6)), (AV.v (Value.int IntKind.i64 y7)), (AV.v (Value.int IntKind.i64 y8)), (AV.v (Value.int IntKind.i64 y9)), (AV.v (Value.int IntKind.i64 y10)), (AV.v (Value.int IntKind.i64 y11)), (AV.v (Value.int IntKind.i64 y12)), (AV.v (Value.int IntKind.i64 y13)), (AV.lst (4 : Nat) (List.map clA ds) Tip.no)])])) (ssOk [(AV.agg [(AV.v (Value.int IntKind.i64 x1)), (AV.v (Value.int IntKind.i64 x2)), (AV.v (Value.int IntKind.i64 x3)), (AV.v (Value.int IntKind.i64 x4)), (AV.v (Value.int IntKind.i64 x5)), (AV.v (Value.int IntKind.i64 x6)), (AV.v (Value.int IntKind.i64 x7)), (AV.v (Value.int IntKind.i64 x8)), (AV.v (Value.int IntKind.i64 x9)), (AV.v (Value.int IntKind.i64 x10)), (AV.v (Value.int IntKind.i64 x11)), (AV.v (Value.int IntKind.i64 x12)), (AV.v (Value.int IntKind.i64 x13)), (AV.lst (4 : Nat) (List.map clA cs) Tip.no)]), (AV.agg [(AV.v (Value.int IntKind.i64 y1)), (AV.v (Value.int IntKind.i64 y2)), (AV.v (Value.int IntKind.i64 y3)), (AV.v (Value.int IntKind.i64 y4)), (AV.v (Value.int IntKind.i64 y5)), (AV.v (Value.int IntKind.i64 y6)), (AV.v (Value.int IntKind.i64 y7)), (AV.v (Value.int IntKind.i64 y8)), (AV.v (Value.int IntKind.i64 y9)), (AV.v (Value.int IntKind.i64 y10)), (AV.v (Value.int IntKind.i64 y11)), (AV.v (Value.int IntKind.i64 y12)), (AV.v (Value.int IntKind.i64 y13)), (AV.lst (4 : Nat) (List.map clA ds) Tip.no)])])) (ssOk [(AV.agg [(AV.v (Value.int IntKind.i64 x1)), (AV.v (Value.int IntKind.i64 x2)), (AV.v (Value.int IntKind.i64 x3)), (AV.v (Value.int IntKind.i64 x4)), (AV.v (Value.int IntKind.i64 x5)), (AV.v (Value.int IntKind.i64 x6)), (AV.v (Value.int IntKind.i64 x7)), (AV.v (Value.int IntKind.i64 x8)), (AV.v (Value.int IntKind.i64 x9)), (AV.v (Value.int IntKind.i64 x10)), (AV.v (Value.int IntKind.i64 x11)), (AV.v (Value.int IntKind.i64 x12)), (AV.v (Value.int IntKind.i64 x13)), (AV.lst (4 : Nat) (List.map clA cs) Tip.no)]), (AV.agg [(AV.v (Value.int IntKind.i64 x1)), (AV.v (Value.int IntKind.i64 x2)), (AV.v (Value.int IntKind.i64 x3)), (AV.v (Value.int IntKind.i64 x4)), (AV.v (Value.int IntKind.i64 x5)), (AV.v (Value.int IntKind.i64 x6)), (AV.v (Value.int IntKind.i64 x7)), (AV.v (Value.int IntKind.i64 x8)), (AV.v (Value.int IntKind.i64 x9)), (AV.v (Value.int IntKind.i64 x10)), (AV.v (Value.int IntKind.i64 x11)), (AV.v (Value.int IntKind.i64 x12)), (AV.v (Value.int IntKind.i64 x13)), (AV.lst (4 : Nat) (List.map clA cs) Tip.no)])])) ∧ (Φ (AV.v (Value.bool false)))))) else (some ((cdb (cdb (cdb (cdb (cdb (cdb (cdb (cdb (cdb (cdb True (chOk [(AV.agg [(AV.v (Value.int IntKind.i64 x1)), (AV.v (Value.int IntKind.i64 x2)), (AV.v (Value.int IntKind.i64 x3)), (AV.v (Value.int IntKind.i64 x4)), (AV.v (Value.int IntKind.i64 x5)), (AV.v (Value.int IntKind.i64 x6)), (AV.v (Value.int IntKind.i64 x7)), (AV.v (Value.int IntKind.i64 x8)), (AV.v (Value.int IntKind.i64 x9)), (AV.v (Value.int IntKind.i64 x10)), (AV.v (Value.int IntKind.i64 x11)), (AV.v (Value.int IntKind.i64 x12)), (AV.v (Value.int IntKind.i64 x13)), (AV.lst (4 : Nat) (List.map clA cs) Tip.no)]), (AV.v (Value.int IntKind.i64 a)), (AV.v (Value.int IntKind.i64 b)), (AV.v (Value.int IntKind.i64 c))])) (chOk [(AV.agg [(AV.v (Value.int IntKind.i64 x1)), (AV.v (Value.int IntKind.i64 x2)), (AV.v (Value.int IntKind.i64 x3)), (AV.v (Value.int IntKind.i64 x4)), (AV.v (Value.int IntKind.i64 x5)), (AV.v (Value.int IntKind.i64 x6)), (AV.v (Value.int IntKind.i64 x7)), (AV.v (Value.int IntKind.i64 x8)), (AV.v (Value.int IntKind.i64 x9)), (AV.v (Value.int IntKind.i64 x10)), (AV.v (Value.int IntKind.i64 x11)), (AV.v (Value.int IntKind.i64 x12)), (AV.v (Value.int IntKind.i64 x13)), (AV.lst (4 : Nat) (List.map clA cs) Tip.no)]), (AV.v (Value.int IntKind.i64 a)), (AV.v (Value.int IntKind.i64 b)), (AV.v (Value.int IntKind.i64 c))])) (rqOk [(AV.agg [(AV.v (Value.int IntKind.i64 x1)), (AV.v (Value.int IntKind.i64 x2)), (AV.v (Value.int IntKind.i64 x3)), (AV.v (Value.int IntKind.i64 x4)), (AV.v (Value.int IntKind.i64 x5)), (AV.v (Value.int IntKind.i64 x6)), (AV.v (Value.int IntKind.i64 x7)), (AV.v (Value.int IntKind.i64 x8)), (AV.v (Value.int IntKind.i64 x9)), (AV.v (Value.int IntKind.i64 x10)), (AV.v (Value.int IntKind.i64 x11)), (AV.v (Value.int IntKind.i64 x12)), (AV.v (Value.int IntKind.i64 x13)), (AV.lst (4 : Nat) (List.map clA cs) Tip.no)])])) (smOk [(AV.lst (4 : Nat) (List.map clA cs) Tip.no), (AV.v (Value.bool true))])) (scOk [(AV.lst (4 : Nat) (List.map clA ((S).4 (AV.agg [(AV.v (Value.int IntKind.i64 x1)), (AV.v (Value.int IntKind.i64 x2)), (AV.v (Value.int IntKind.i64 x3)), (AV.v (Value.int IntKind.i64 x4)), (AV.v (Value.int IntKind.i64 x5)), (AV.v (Value.int IntKind.i64 x6)), (AV.v (Value.int IntKind.i64 x7)), (AV.v (Value.int IntKind.i64 x8)), (AV.v (Value.int IntKind.i64 x9)), (AV.v (Value.int IntKind.i64 x10)), (AV.v (Value.int IntKind.i64 x11)), (AV.v (Value.int IntKind.i64 x12)), (AV.v (Value.int IntKind.i64 x13)), (AV.lst (4 : Nat) (List.map clA cs) Tip.no)]))) Tip.no), (AV.lst (4 : Nat) (List.map clA ((S).6 (AV.lst (4 : Nat) (List.map clA cs) Tip.no) true)) Tip.no)])) (rqOk [(AV.agg [(AV.v (Value.int IntKind.i64 x1)), (AV.v (Value.int IntKind.i64 x2)), (AV.v (Value.int IntKind.i64 x3)), (AV.v (Value.int IntKind.i64 x4)), (AV.v (Value.int IntKind.i64 x5)), (AV.v (Value.int IntKind.i64 x6)), (AV.v (Value.int IntKind.i64 x7)), (AV.v (Value.int IntKind.i64 x8)), (AV.v (Value.int IntKind.i64 x9)), (AV.v (Value.int IntKind.i64 x10)), (AV.v (Value.int IntKind.i64 x11)), (AV.v (Value.int IntKind.i64 x12)), (AV.v (Value.int IntKind.i64 x13)), (AV.lst (4 : Nat) (List.map clA cs) Tip.no)])])) (smOk [(AV.lst (4 : Nat) (List.map clA cs) Tip.no), (AV.v (Value.bool false))])) (scOk [(AV.lst (4 : Nat) (List.map clA ((S).5 (AV.agg [(AV.v (Value.int IntKind.i64 x1)), (AV.v (Value.int IntKind.i64 x2)), (AV.v (Value.int IntKind.i64 x3)), (AV.v (Value.int IntKind.i64 x4)), (AV.v (Value.int IntKind.i64 x5)), (AV.v (Value.int IntKind.i64 x6)), (AV.v (Value.int IntKind.i64 x7)), (AV.v (Value.int IntKind.i64 x8)), (AV.v (Value.int IntKind.i64 x9)), (AV.v (Value.int IntKind.i64 x10)), (AV.v (Value.int IntKind.i64 x11)), (AV.v (Value.int IntKind.i64 x12)), (AV.v (Value.int IntKind.i64 x13)), (AV.lst (4 : Nat) (List.map clA cs) Tip.no)]))) Tip.no), (AV.lst (4 : Nat) (List.map clA ((S).6 (AV.lst (4 : Nat) (List.map clA cs) Tip.no) false)) Tip.no)])) (ssOk [(AV.agg [(AV.v (Value.int IntKind.i64 x1)), (AV.v (Value.int IntKind.i64 x2)), (AV.v (Value.int IntKind.i64 x3)), (AV.v (Value.int IntKind.i64 x4)), (AV.v (Value.int IntKind.i64 x5)), (AV.v (Value.int IntKind.i64 x6)), (AV.v (Value.int IntKind.i64 x7)), (AV.v (Value.int IntKind.i64 x8)), (AV.v (Value.int IntKind.i64 x9)), (AV.v (Value.int IntKind.i64 x10)), (AV.v (Value.int IntKind.i64 x11)), (AV.v (Value.int IntKind.i64 x12)), (AV.v (Value.int IntKind.i64 x13)), (AV.lst (4 : Nat) (List.map clA cs) Tip.no)]), (AV.agg [(AV.v (Value.int IntKind.i64 y1)), (AV.v (Value.int IntKind.i64 y2)), (AV.v (Value.int IntKind.i64 y3)), (AV.v (Value.int IntKind.i64 y4)), (AV.v (Value.int IntKind.i64 y5)), (AV.v (Value.int IntKind.i64 y6)), (AV.v (Value.int IntKind.i64 y7)), (AV.v (Value.int IntKind.i64 y8)), (AV.v (Value.int IntKind.i64 y9)), (AV.v (Value.int IntKind.i64 y10)), (AV.v (Value.int IntKind.i64 y11)), (AV.v (Value.int IntKind.i64 y12)), (AV.v (Value.int IntKind.i64 y13)), (AV.lst (4 : Nat) (List.map clA ds) Tip.no)])])) (ssOk [(AV.agg [(AV.v (Value.int IntKind.i64 x1)), (AV.v (Value.int IntKind.i64 x2)), (AV.v (Value.int IntKind.i64 x3)), (AV.v (Value.int IntKind.i64 x4)), (AV.v (Value.int IntKind.i64 x5)), (AV.v (Value.int IntKind.i64 x6)), (AV.v (Value.int IntKind.i64 x7)), (AV.v (Value.int IntKind.i64 x8)), (AV.v (Value.int IntKind.i64 x9)), (AV.v (Value.int IntKind.i64 x10)), (AV.v (Value.int IntKind.i64 x11)), (AV.v (Value.int IntKind.i64 x12)), (AV.v (Value.int IntKind.i64 x13)), (AV.lst (4 : Nat) (List.map clA cs) Tip.no)]), (AV.agg [(AV.v (Value.int IntKind.i64 y1)), (AV.v (Value.int IntKind.i64 y2)), (AV.v (Value.int IntKind.i64 y3)), (AV.v (Value.int IntKind.i64 y4)), (AV.v (Value.int IntKind.i64 y5)), (AV.v (Value.int IntKind.i64 y6)), (AV.v (Value.int IntKind.i64 y7)), (AV.v (Value.int IntKind.i64 y8)), (AV.v (Value.int IntKind.i64 y9)), (AV.v (Value.int IntKind.i64 y10)), (AV.v (Value.int IntKind.i64 y11)), (AV.v (Value.int IntKind.i64 y12)), (AV.v (Value.int IntKind.i64 y13)), (AV.lst (4 : Nat) (List.map clA ds) Tip.no)])])) ∧ (Φ (AV.v (Value.bool false)))))) else (some ((cdb (cdb (cdb (cdb (cdb (cdb (cdb (cdb True (chOk [(AV.agg [(AV.v (Value.int IntKind.i64 x1)), (AV.v (Value.int IntKind.i64 x2)), (AV.v (Value.int IntKind.i64 x3)), (AV.v (Value.int IntKind.i64 x4)), (AV.v (Value.int IntKind.i64 x5)), (AV.v (Value.int IntKind.i64 x6)), (AV.v (Value.int IntKind.i64 x7)), (AV.v (Value.int IntKind.i64 x8)), (AV.v (Value.int IntKind.i64 x9)), (AV.v (Value.int IntKind.i64 x10)), (AV.v (Value.int IntKind.i64 x11)), (AV.v (Value.int IntKind.i64 x12)), (AV.v (Value.int IntKind.i64 x13)), (AV.lst (4 : Nat) (List.map clA cs) Tip.no)]), (AV.v (Value.int IntKind.i64 a)), (AV.v (Value.int IntKind.i64 b)), (AV.v (Value.int IntKind.i64 c))])) (chOk [(AV.agg [(AV.v (Value.int IntKind.i64 x1)), (AV.v (Value.int IntKind.i64 x2)), (AV.v (Value.int IntKind.i64 x3)), (AV.v (Value.int IntKind.i64 x4)), (AV.v (Value.int IntKind.i64 x5)), (AV.v (Value.int IntKind.i64 x6)), (AV.v (Value.int IntKind.i64 x7)), (AV.v (Value.int IntKind.i64 x8)), (AV.v (Value.int IntKind.i64 x9)), (AV.v (Value.int IntKind.i64 x10)), (AV.v (Value.int IntKind.i64 x11)), (AV.v (Value.int IntKind.i64 x12)), (AV.v (Value.int IntKind.i64 x13)), (AV.lst (4 : Nat) (List.map clA cs) Tip.no)]), (AV.v (Value.int IntKind.i64 a)), (AV.v (Value.int IntKind.i64 b)), (AV.v (Value.int IntKind.i64 c))])) (rqOk [(AV.agg [(AV.v (Value.int IntKind.i64 x1)), (AV.v (Value.int IntKind.i64 x2)), (AV.v (Value.int IntKind.i64 x3)), (AV.v (Value.int IntKind.i64 x4)), (AV.v (Value.int IntKind.i64 x5)), (AV.v (Value.int IntKind.i64 x6)), (AV.v (Value.int IntKind.i64 x7)), (AV.v (Value.int IntKind.i64 x8)), (AV.v (Value.int IntKind.i64 x9)), (AV.v (Value.int IntKind.i64 x10)), (AV.v (Value.int IntKind.i64 x11)), (AV.v (Value.int IntKind.i64 x12)), (AV.v (Value.int IntKind.i64 x13)), (AV.lst (4 : Nat) (List.map clA cs) Tip.no)])])) (smOk [(AV.lst (4 : Nat) (List.map clA cs) Tip.no), (AV.v (Value.bool true))])) (scOk [(AV.lst (4 : Nat) (List.map clA ((S).4 (AV.agg [(AV.v (Value.int IntKind.i64 x1)), (AV.v (Value.int IntKind.i64 x2)), (AV.v (Value.int IntKind.i64 x3)), (AV.v (Value.int IntKind.i64 x4)), (AV.v (Value.int IntKind.i64 x5)), (AV.v (Value.int IntKind.i64 x6)), (AV.v (Value.int IntKind.i64 x7)), (AV.v (Value.int IntKind.i64 x8)), (AV.v (Value.int IntKind.i64 x9)), (AV.v (Value.int IntKind.i64 x10)), (AV.v (Value.int IntKind.i64 x11)), (AV.v (Value.int IntKind.i64 x12)), (AV.v (Value.int IntKind.i64 x13)), (AV.lst (4 : Nat) (List.map clA cs) Tip.no)]))) Tip.no), (AV.lst (4 : Nat) (List.map clA ((S).6 (AV.lst (4 : Nat) (List.map clA cs) Tip.no) true)) Tip.no)])) (rqOk [(AV.agg [(AV.v (Value.int IntKind.i64 x1)), (AV.v (Value.int IntKind.i64 x2)), (AV.v (Value.int IntKind.i64 x3)), (AV.v (Value.int IntKind.i64 x4)), (AV.v (Value.int IntKind.i64 x5)), (AV.v (Value.int IntKind.i64 x6)), (AV.v (Value.int IntKind.i64 x7)), (AV.v (Value.int IntKind.i64 x8)), (AV.v (Value.int IntKind.i64 x9)), (AV.v (Value.int IntKind.i64 x10)), (AV.v (Value.int IntKind.i64 x11)), (AV.v (Value.int IntKind.i64 x12)), (AV.v (Value.int IntKind.i64 x13)), (AV.lst (4 : Nat) (List.map clA cs) Tip.no)])])) (smOk [(AV.lst (4 : Nat) (List.map clA cs) Tip.no), (AV.v (Value.bool false))])) (scOk [(AV.lst (4 : Nat) (List.map clA ((S).5 (AV.agg [(AV.v (Value.int IntKind.i64 x1)), (AV.v (Value.int IntKind.i64 x2)), (AV.v (Value.int IntKind.i64 x3)), (AV.v (Value.int IntKind.i64 x4)), (AV.v (Value.int IntKind.i64 x5)), (AV.v (Value.int IntKind.i64 x6)), (AV.v (Value.int IntKind.i64 x7)), (AV.v (Value.int IntKind.i64 x8)), (AV.v (Value.int IntKind.i64 x9)), (AV.v (Value.int IntKind.i64 x10)), (AV.v (Value.int IntKind.i64 x11)), (AV.v (Value.int IntKind.i64 x12)), (AV.v (Value.int IntKind.i64 x13)), (AV.lst (4 : Nat) (List.map clA cs) Tip.no)]))) Tip.no), (AV.lst (4 : Nat) (List.map clA ((S).6 (AV.lst (4 : Nat) (List.map clA cs) Tip.no) false)) Tip.no)])) ∧ (Φ (AV.v (Value.bool false)))))) else (some ((cdb (cdb (cdb (cdb (cdb True (chOk [(AV.agg [(AV.v (Value.int IntKind.i64 x1)), (AV.v (Value.int IntKind.i64 x2)), (AV.v (Value.int IntKind.i64 x3)), (AV.v (Value.int IntKind.i64 x4)), (AV.v (Value.int IntKind.i64 x5)), (AV.v (Value.int IntKind.i64 x6)), (AV.v (Value.int IntKind.i64 x7)), (AV.v (Value.int IntKind.i64 x8)), (AV.v (Value.int IntKind.i64 x9)), (AV.v (Value.int IntKind.i64 x10)), (AV.v (Value.int IntKind.i64 x11)), (AV.v (Value.int IntKind.i64 x12)), (AV.v (Value.int IntKind.i64 x13)), (AV.lst (4 : Nat) (List.map clA cs) Tip.no)]), (AV.v (Value.int IntKind.i64 a)), (AV.v (Value.int IntKind.i64 b)), (AV.v (Value.int IntKind.i64 c))])) (chOk [(AV.agg [(AV.v (Value.int IntKind.i64 x1)), (AV.v (Value.int IntKind.i64 x2)), (AV.v (Value.int IntKind.i64 x3)), (AV.v (Value.int IntKind.i64 x4)), (AV.v (Value.int IntKind.i64 x5)), (AV.v (Value.int IntKind.i64 x6)), (AV.v (Value.int IntKind.i64 x7)), (AV.v (Value.int IntKind.i64 x8)), (AV.v (Value.int IntKind.i64 x9)), (AV.v (Value.int IntKind.i64 x10)), (AV.v (Value.int IntKind.i64 x11)), (AV.v (Value.int IntKind.i64 x12)), (AV.v (Value.int IntKind.i64 x13)), (AV.lst (4 : Nat) (List.map clA cs) Tip.no)]), (AV.v (Value.int IntKind.i64 a)), (AV.v (Value.int IntKind.i64 b)), (AV.v (Value.int IntKind.i64 c))])) (rqOk [(AV.agg [(AV.v (Value.int IntKind.i64 x1)), (AV.v (Value.int IntKind.i64 x2)), (AV.v (Value.int IntKind.i64 x3)), (AV.v (Value.int IntKind.i64 x4)), (AV.v (Value.int IntKind.i64 x5)), (AV.v (Value.int IntKind.i64 x6)), (AV.v (Value.int IntKind.i64 x7)), (AV.v (Value.int IntKind.i64 x8)), (AV.v (Value.int IntKind.i64 x9)), (AV.v (Value.int IntKind.i64 x10)), (AV.v (Value.int IntKind.i64 x11)), (AV.v (Value.int IntKind.i64 x12)), (AV.v (Value.int IntKind.i64 x13)), (AV.lst (4 : Nat) (List.map clA cs) Tip.no)])])) (smOk [(AV.lst (4 : Nat) (List.map clA cs) Tip.no), (AV.v (Value.bool true))])) (scOk [(AV.lst (4 : Nat) (List.map clA ((S).4 (AV.agg [(AV.v (Value.int IntKind.i64 x1)), (AV.v (Value.int IntKind.i64 x2)), (AV.v (Value.int IntKind.i64 x3)), (AV.v (Value.int IntKind.i64 x4)), (AV.v (Value.int IntKind.i64 x5)), (AV.v (Value.int IntKind.i64 x6)), (AV.v (Value.int IntKind.i64 x7)), (AV.v (Value.int IntKind.i64 x8)), (AV.v (Value.int IntKind.i64 x9)), (AV.v (Value.int IntKind.i64 x10)), (AV.v (Value.int IntKind.i64 x11)), (AV.v (Value.int IntKind.i64 x12)), (AV.v (Value.int IntKind.i64 x13)), (AV.lst (4 : Nat) (List.map clA cs) Tip.no)]))) Tip.no), (AV.lst (4 : Nat) (List.map clA ((S).6 (AV.lst (4 : Nat) (List.map clA cs) Tip.no) true)) Tip.no)])) ∧ (Φ (AV.v (Value.bool false)))))) else (some ((cdb (cdb True (chOk [(AV.agg [(AV.v (Value.int IntKind.i64 x1)), (AV.v (Value.int IntKind.i64 x2)), (AV.v (Value.int IntKind.i64 x3)), (AV.v (Value.int IntKind.i64 x4)), (AV.v (Value.int IntKind.i64 x5)), (AV.v (Value.int IntKind.i64 x6)), (AV.v (Value.int IntKind.i64 x7)), (AV.v (Value.int IntKind.i64 x8)), (AV.v (Value.int IntKind.i64 x9)), (AV.v (Value.int IntKind.i64 x10)), (AV.v (Value.int IntKind.i64 x11)), (AV.v (Value.int IntKind.i64 x12)), (AV.v (Value.int IntKind.i64 x13)), (AV.lst (4 : Nat) (List.map clA cs) Tip.no)]), (AV.v (Value.int IntKind.i64 a)), (AV.v (Value.int IntKind.i64 b)), (AV.v (Value.int IntKind.i64 c))])) (chOk [(AV.agg [(AV.v (Value.int IntKind.i64 x1)), (AV.v (Value.int IntKind.i64 x2)), (AV.v (Value.int IntKind.i64 x3)), (AV.v (Value.int IntKind.i64 x4)), (AV.v (Value.int IntKind.i64 x5)), (AV.v (Value.int IntKind.i64 x6)), (AV.v (Value.int IntKind.i64 x7)), (AV.v (Value.int IntKind.i64 x8)), (AV.v (Value.int IntKind.i64 x9)), (AV.v (Value.int IntKind.i64 x10)), (AV.v (Value.int IntKind.i64 x11)), (AV.v (Value.int IntKind.i64 x12)), (AV.v (Value.int IntKind.i64 x13)), (AV.lst (4 : Nat) (List.map clA cs) Tip.no)]), (AV.v (Value.int IntKind.i64 a)), (AV.v (Value.int IntKind.i64 b)), (AV.v (Value.int IntKind.i64 c))])) ∧ (Φ (AV.v (Value.bool false)))))))) := by kernel_rfl
end Go.Proofs.YtkienkbaiejdmaaDoor.AE
namespace Go.Proofs.YtkienkbaiejdmaaDoor.AE
open Go.RowKit
section
variable {tS tR : TypeId} {pS pR : Value}
theorem fs_checks (x1 x2 x3 x4 x5 x6 x7 x8 x9 x10 x11 x12 x13 y1 y2 y3 y4 y5 y6 y7 y8 y9 y10 y11 y12 y13 : Int) (cs ds : List Cl) (a b c : Int) : Fs Tryd.prog (roN tS pS tR pR) 3 [svcA x1 x2 x3 x4 x5 x6 x7 x8 x9 x10 x11 x12 x13 cs, svcA y1 y2 y3 y4 y5 y6 y7 y8 y9 y10 y11 y12 y13 ds, .v (.agg #[.int .i64 a, .int .i64 b, .int .i64 c])] (hp [] []) fun r _ => r = .v (.bool true) := by
  have body := t_checks csx tS tR pS pR x1 x2 x3 x4 x5 x6 x7 x8 x9 x10 x11 x12 x13 y1 y2 y3 y4 y5 y6 y7 y8 y9 y10 y11 y12 y13 cs ds a b c fun r => r = .v (.bool true)
  have hrq : csx.rq (AV.agg [(AV.v (Value.int IntKind.i64 x1)), (AV.v (Value.int IntKind.i64 x2)), (AV.v (Value.int IntKind.i64 x3)), (AV.v (Value.int IntKind.i64 x4)), (AV.v (Value.int IntKind.i64 x5)), (AV.v (Value.int IntKind.i64 x6)), (AV.v (Value.int IntKind.i64 x7)), (AV.v (Value.int IntKind.i64 x8)), (AV.v (Value.int IntKind.i64 x9)), (AV.v (Value.int IntKind.i64 x10)), (AV.v (Value.int IntKind.i64 x11)), (AV.v (Value.int IntKind.i64 x12)), (AV.v (Value.int IntKind.i64 x13)), (AV.lst 4 (List.map clA cs) Tip.no)]) = cs.filter isReq := by
    show (svcK (svcA x1 x2 x3 x4 x5 x6 x7 x8 x9 x10 x11 x12 x13 cs)).filter isReq = _
    rw [svcK_some (svc_A ..)]
  have hoq : csx.oq (AV.agg [(AV.v (Value.int IntKind.i64 x1)), (AV.v (Value.int IntKind.i64 x2)), (AV.v (Value.int IntKind.i64 x3)), (AV.v (Value.int IntKind.i64 x4)), (AV.v (Value.int IntKind.i64 x5)), (AV.v (Value.int IntKind.i64 x6)), (AV.v (Value.int IntKind.i64 x7)), (AV.v (Value.int IntKind.i64 x8)), (AV.v (Value.int IntKind.i64 x9)), (AV.v (Value.int IntKind.i64 x10)), (AV.v (Value.int IntKind.i64 x11)), (AV.v (Value.int IntKind.i64 x12)), (AV.v (Value.int IntKind.i64 x13)), (AV.lst 4 (List.map clA cs) Tip.no)]) = cs.filter isOpt := by
    show (svcK (svcA x1 x2 x3 x4 x5 x6 x7 x8 x9 x10 x11 x12 x13 cs)).filter isOpt = _
    rw [svcK_some (svc_A ..)]
  have hs1 : csx.sm (.lst 4 (cs.map clA) .no) true = cs.filter isReq := by
    show (clsX (.lst 4 (cs.map clA) .no)).filter (isSm true) = _
    rw [clsX_lst, some_req]
  have hs2 : csx.sm (.lst 4 (cs.map clA) .no) false = cs.filter isOpt := by
    show (clsX (.lst 4 (cs.map clA) .no)).filter (isSm false) = _
    rw [clsX_lst, some_opt]
  have hsc : ∀ p : List Cl, csx.sc (.lst 4 (p.map clA) .no) (.lst 4 (p.map clA) .no) = true := fun p => decide_eq_true rfl
  have hss : csx.ss (AV.agg [(AV.v (Value.int IntKind.i64 x1)), (AV.v (Value.int IntKind.i64 x2)), (AV.v (Value.int IntKind.i64 x3)), (AV.v (Value.int IntKind.i64 x4)), (AV.v (Value.int IntKind.i64 x5)), (AV.v (Value.int IntKind.i64 x6)), (AV.v (Value.int IntKind.i64 x7)), (AV.v (Value.int IntKind.i64 x8)), (AV.v (Value.int IntKind.i64 x9)), (AV.v (Value.int IntKind.i64 x10)), (AV.v (Value.int IntKind.i64 x11)), (AV.v (Value.int IntKind.i64 x12)), (AV.v (Value.int IntKind.i64 x13)), (AV.lst 4 (List.map clA cs) Tip.no)]) (AV.agg [(AV.v (Value.int IntKind.i64 x1)), (AV.v (Value.int IntKind.i64 x2)), (AV.v (Value.int IntKind.i64 x3)), (AV.v (Value.int IntKind.i64 x4)), (AV.v (Value.int IntKind.i64 x5)), (AV.v (Value.int IntKind.i64 x6)), (AV.v (Value.int IntKind.i64 x7)), (AV.v (Value.int IntKind.i64 x8)), (AV.v (Value.int IntKind.i64 x9)), (AV.v (Value.int IntKind.i64 x10)), (AV.v (Value.int IntKind.i64 x11)), (AV.v (Value.int IntKind.i64 x12)), (AV.v (Value.int IntKind.i64 x13)), (AV.lst 4 (List.map clA cs) Tip.no)]) = true := by
    show svcE (svcN (svcA x1 x2 x3 x4 x5 x6 x7 x8 x9 x10 x11 x12 x13 cs)) (svcK (svcA x1 x2 x3 x4 x5 x6 x7 x8 x9 x10 x11 x12 x13 cs)) (svcN (svcA x1 x2 x3 x4 x5 x6 x7 x8 x9 x10 x11 x12 x13 cs)) (svcK (svcA x1 x2 x3 x4 x5 x6 x7 x8 x9 x10 x11 x12 x13 cs)) = true
    rw [svcN_some (svc_A ..), svcK_some (svc_A ..)]
    unfold svcE
    rw [beq_self_eq_true, decide_eq_true rfl]; rfl
  simp only [cll, beq_self_eq_true, cond_true, hrq, hoq, hs1, hs2, hsc, hss] at body
  refine Fs.of_call knownZ body (holds_bif (fun _ => ⟨trivial, trivial⟩) fun l1 => holds_bif (fun _ => ⟨trivial, trivial⟩) fun l2 => ⟨?_, trivial⟩)
  have l1 : cs.length ≤ 20 := by have := of_decide_eq_false l1; omega
  have l2 : ds.length ≤ 20 := by have := of_decide_eq_false l2; omega
  have k1 : chOk [(AV.agg [(AV.v (Value.int IntKind.i64 x1)), (AV.v (Value.int IntKind.i64 x2)), (AV.v (Value.int IntKind.i64 x3)), (AV.v (Value.int IntKind.i64 x4)), (AV.v (Value.int IntKind.i64 x5)), (AV.v (Value.int IntKind.i64 x6)), (AV.v (Value.int IntKind.i64 x7)), (AV.v (Value.int IntKind.i64 x8)), (AV.v (Value.int IntKind.i64 x9)), (AV.v (Value.int IntKind.i64 x10)), (AV.v (Value.int IntKind.i64 x11)), (AV.v (Value.int IntKind.i64 x12)), (AV.v (Value.int IntKind.i64 x13)), (AV.lst 4 (List.map clA cs) Tip.no)]), AV.v (.int .i64 a), AV.v (.int .i64 b), AV.v (.int .i64 c)] = true := by
    show (match svc? (svcA x1 x2 x3 x4 x5 x6 x7 x8 x9 x10 x11 x12 x13 cs) with | some p => decide (p.2.length ≤ 1000000) | none => false) = true
    rw [svc_A]; exact decide_eq_true (show cs.length ≤ 1000000 by omega)
  have k2 : rqOk [(AV.agg [(AV.v (Value.int IntKind.i64 x1)), (AV.v (Value.int IntKind.i64 x2)), (AV.v (Value.int IntKind.i64 x3)), (AV.v (Value.int IntKind.i64 x4)), (AV.v (Value.int IntKind.i64 x5)), (AV.v (Value.int IntKind.i64 x6)), (AV.v (Value.int IntKind.i64 x7)), (AV.v (Value.int IntKind.i64 x8)), (AV.v (Value.int IntKind.i64 x9)), (AV.v (Value.int IntKind.i64 x10)), (AV.v (Value.int IntKind.i64 x11)), (AV.v (Value.int IntKind.i64 x12)), (AV.v (Value.int IntKind.i64 x13)), (AV.lst 4 (List.map clA cs) Tip.no)])] = true := by
    show (match svc? (svcA x1 x2 x3 x4 x5 x6 x7 x8 x9 x10 x11 x12 x13 cs) with | some p => decide (p.2.length ≤ 1000000) | none => false) = true
    rw [svc_A]; exact decide_eq_true (show cs.length ≤ 1000000 by omega)
  have k3 : ssOk [(AV.agg [(AV.v (Value.int IntKind.i64 x1)), (AV.v (Value.int IntKind.i64 x2)), (AV.v (Value.int IntKind.i64 x3)), (AV.v (Value.int IntKind.i64 x4)), (AV.v (Value.int IntKind.i64 x5)), (AV.v (Value.int IntKind.i64 x6)), (AV.v (Value.int IntKind.i64 x7)), (AV.v (Value.int IntKind.i64 x8)), (AV.v (Value.int IntKind.i64 x9)), (AV.v (Value.int IntKind.i64 x10)), (AV.v (Value.int IntKind.i64 x11)), (AV.v (Value.int IntKind.i64 x12)), (AV.v (Value.int IntKind.i64 x13)), (AV.lst 4 (List.map clA cs) Tip.no)]), (AV.agg [(AV.v (Value.int IntKind.i64 y1)), (AV.v (Value.int IntKind.i64 y2)), (AV.v (Value.int IntKind.i64 y3)), (AV.v (Value.int IntKind.i64 y4)), (AV.v (Value.int IntKind.i64 y5)), (AV.v (Value.int IntKind.i64 y6)), (AV.v (Value.int IntKind.i64 y7)), (AV.v (Value.int IntKind.i64 y8)), (AV.v (Value.int IntKind.i64 y9)), (AV.v (Value.int IntKind.i64 y10)), (AV.v (Value.int IntKind.i64 y11)), (AV.v (Value.int IntKind.i64 y12)), (AV.v (Value.int IntKind.i64 y13)), (AV.lst 4 (List.map clA ds) Tip.no)])] = true := by
    show (match svc? (svcA x1 x2 x3 x4 x5 x6 x7 x8 x9 x10 x11 x12 x13 cs) with | some p => (match svc? (svcA y1 y2 y3 y4 y5 y6 y7 y8 y9 y10 y11 y12 y13 ds) with | some _ => decide (p.2.length ≤ 1000000) | none => false) | none => false) = true
    rw [svc_A, svc_A]; exact decide_eq_true (show cs.length ≤ 1000000 by omega)
  have k4 : ssOk [(AV.agg [(AV.v (Value.int IntKind.i64 x1)), (AV.v (Value.int IntKind.i64 x2)), (AV.v (Value.int IntKind.i64 x3)), (AV.v (Value.int IntKind.i64 x4)), (AV.v (Value.int IntKind.i64 x5)), (AV.v (Value.int IntKind.i64 x6)), (AV.v (Value.int IntKind.i64 x7)), (AV.v (Value.int IntKind.i64 x8)), (AV.v (Value.int IntKind.i64 x9)), (AV.v (Value.int IntKind.i64 x10)), (AV.v (Value.int IntKind.i64 x11)), (AV.v (Value.int IntKind.i64 x12)), (AV.v (Value.int IntKind.i64 x13)), (AV.lst 4 (List.map clA cs) Tip.no)]), (AV.agg [(AV.v (Value.int IntKind.i64 x1)), (AV.v (Value.int IntKind.i64 x2)), (AV.v (Value.int IntKind.i64 x3)), (AV.v (Value.int IntKind.i64 x4)), (AV.v (Value.int IntKind.i64 x5)), (AV.v (Value.int IntKind.i64 x6)), (AV.v (Value.int IntKind.i64 x7)), (AV.v (Value.int IntKind.i64 x8)), (AV.v (Value.int IntKind.i64 x9)), (AV.v (Value.int IntKind.i64 x10)), (AV.v (Value.int IntKind.i64 x11)), (AV.v (Value.int IntKind.i64 x12)), (AV.v (Value.int IntKind.i64 x13)), (AV.lst 4 (List.map clA cs) Tip.no)])] = true := by
    show (match svc? (svcA x1 x2 x3 x4 x5 x6 x7 x8 x9 x10 x11 x12 x13 cs) with | some p => (match svc? (svcA x1 x2 x3 x4 x5 x6 x7 x8 x9 x10 x11 x12 x13 cs) with | some _ => decide (p.2.length ≤ 1000000) | none => false) | none => false) = true
    rw [svc_A]; exact decide_eq_true (show cs.length ≤ 1000000 by omega)
  have k5 := smOk_of cs .no true (by omega)
  have k6 := smOk_of cs .no false (by omega)
  have k7 := scOk_of (cs.filter isReq) (cs.filter isReq) .no .no (Nat.le_trans (List.length_filter_le _ _) (by omega))
  have k8 := scOk_of (cs.filter isOpt) (cs.filter isOpt) .no .no (Nat.le_trans (List.length_filter_le _ _) (by omega))
  repeat' first
    | with_reducible exact trivial
    | with_reducible refine cdb_iff.2 ⟨?_, ?_⟩
    | with_reducible exact k1
    | with_reducible exact k2
    | with_reducible exact k3
    | with_reducible exact k4
    | with_reducible exact k5
    | with_reducible exact k6
    | with_reducible exact k7
    | with_reducible exact k8
end
end Go.Proofs.YtkienkbaiejdmaaDoor.AE
namespace Go.Proofs.YtkienkbaiejdmaaDoor.AE
open Go.RowKit
theorem laid_mem {P : Program} {W : World} : ∀ {l : List (String × DataW Unit)} {ps : List MemPlace}, DataW.LaidVars P W l ps → ∀ {n : String} {d : DataW Unit}, (n, d) ∈ l →
    ∃ g t cs fuel p, P.globalNamed n = some g ∧ (P.globals[g]?).map (·.type) = some t ∧ W.var? P n = some cs ∧ DataW.trod (fun _ => ()) P W 0 (fun _ => true) false fuel t cs.toList = some (d, p) ∧ ∀ x ∈ MemPlace.row ⟨g, 0, none⟩ cs.size, x ∈ ps
  | [], _, _, _, _, h => by cases h
  | (n0, d0) :: l, ps, hv, n, d, h => by
    obtain ⟨g, t, cs, fuel, p, q, h1, h2, h3, h4, h5, h6⟩ := hv
    rcases List.mem_cons.1 h with h | h
    · cases h
      exact ⟨g, t, cs, fuel, p, h1, h2, h3, h4, fun x hx => by rw [h6]; simp [hx]⟩
    · obtain ⟨g', t', cs', fuel', p', k1, k2, k3, k4, k5⟩ := laid_mem h5 h
      exact ⟨g', t', cs', fuel', p', k1, k2, k3, k4, fun x hx => by rw [h6]; simp [k5 x hx]⟩
/-- The block of a variable on the list. -/
theorem laid_block {P : Program} {W : World} {l : List (String × DataW Unit)} (hL : laidMet P l W) {n : String} {d : DataW Unit} (h : (n, d) ∈ l) {g : Nat} (hg : P.globalNamed n = some g) :
    ∃ t cs fuel p, (P.globals[g]?).map (·.type) = some t ∧ W.var? P n = some cs ∧ DataW.trod (fun _ => ()) P W 0 (fun _ => true) false fuel t cs.toList = some (d, p) ∧ (0 < cs.size → ∃ e, W.heap[g]? = some (.cells cs e (0, 0))) := by
  obtain ⟨ps, hv, _, hc⟩ := hL
  obtain ⟨g', t, cs, fuel, p, h1, h2, h3, h4, h5⟩ := laid_mem hv h
  rw [hg] at h1
  cases h1
  refine ⟨t, cs, fuel, p, h2, h3, h4, fun h0 => ?_⟩
  have hm : MemPlace.cell g 0 ∈ ps := h5 _ (by unfold MemPlace.row; simp; exact h0)
  obtain ⟨⟨c, e, he⟩, _⟩ := hc g 0 hm
  have hv3 := h3
  unfold World.var? at hv3
  rw [hg] at hv3
  simp only [Option.bind_some, he, Option.some.injEq] at hv3
  rw [hv3] at he
  exact ⟨e, he⟩
/-- A table of numbers, wherever it stands on the list. -/
theorem laid_table {P : Program} {W : World} {l : List (String × DataW Unit)} (hL : laidMet P l W) {name : String} {k : IntKind} {zs : List Int} (h : (name, Lib.tabData k zs) ∈ l) {g : Nat} {t e : TypeId} {n : Nat} (hg : P.globalNamed name = some g)
    (hty : (P.globals[g]?).map (·.type) = some t) (ht : P.underlying t = some (.array n e)) (he : P.underlying e = some (.int k)) (hce : P.cellsOf e = 1) (hct : P.cellsOf t = n) (h0 : 0 < zs.length) :
    (∀ (j : Nat) (u : Value), (zs.map fun z => Value.int k z)[j]? = some u → (G0 W).prot g j ∧ W.cell? ⟨g, j, none⟩ = some u) ∧ ¬ (G0 W).own g ∧ ∃ t, W.heap[g]? = some (.cells (zs.map fun z => Value.int k z).toArray t (0, 0)) := by
  obtain ⟨t', cs, fuel, p, h2, h3, h4, h5⟩ := laid_block hL h hg
  rw [hty] at h2
  cases h2
  have hcs := Lib.cells_of_tab ht he hce hct h4
  have hsz : cs.size = zs.length := by
    have := congrArg List.length hcs
    simpa using this
  obtain ⟨e', hb⟩ := h5 (by omega)
  have ha : cs = (zs.map fun z => Value.int k z).toArray := by rw [← hcs]
  rw [ha] at hb
  refine ⟨fun j u hu => ⟨?_, ?_⟩, fun o => o, e', hb⟩
  · show g < W.heap.size
    by_cases hlt : g < W.heap.size
    · exact hlt
    · rw [Array.getElem?_eq_none (by omega)] at hb; cases hb
  · simp only [World.cell?, hb]
    simpa using hu
theorem trod_iface {P : Program} {W : World} {t m : _} (hu : P.underlying t = some (.interface m)) {fuel : Nat} {cs : List Value} {nm : String} {d : DataW Unit} {p : List MemPlace} (h : DataW.trod (fun _ => ()) P W 0 (fun _ => true) false fuel t cs = some (.iface nm d, p)) : ∃ u v, cs = [.iface u v] := by
  cases fuel with
  | zero => simp [DataW.trod] at h
  | succ fuel =>
    rcases cs with _ | ⟨c, _ | ⟨c2, r⟩⟩
    · simp [DataW.trod, hu] at h
    · cases c <;> first
        | exact ⟨_, _, rfl⟩
        | (simp [DataW.trod, hu] at h)
    · cases c <;> simp [DataW.trod, hu] at h
/-- A variable that holds an error. -/
theorem laid_error {P : Program} {W : World} {l : List (String × DataW Unit)} (hL : laidMet P l W) {name nm : String} {d : DataW Unit} (h : (name, .iface nm d) ∈ l) {g : Nat} {t m : _} (hg : P.globalNamed name = some g)
    (hty : (P.globals[g]?).map (·.type) = some t) (ht : P.underlying t = some (.interface m)) :
    ∃ u v, (∀ (j : Nat) (x : Value), [Value.iface u v][j]? = some x → (G0 W).prot g j ∧ W.cell? ⟨g, j, none⟩ = some x) ∧ ¬ (G0 W).own g ∧ ∃ t, W.heap[g]? = some (.cells [Value.iface u v].toArray t (0, 0)) := by
  obtain ⟨t', cs, fuel, p, h2, h3, h4, h5⟩ := laid_block hL h hg
  rw [hty] at h2
  cases h2
  obtain ⟨u, v, hcs⟩ := trod_iface ht h4
  have ha : cs = [Value.iface u v].toArray := by rw [← hcs]
  have hsz : 0 < cs.size := by rw [ha]; exact Nat.zero_lt_one
  obtain ⟨e', hb⟩ := h5 hsz
  rw [ha] at hb
  refine ⟨u, v, fun j x hx => ⟨?_, ?_⟩, fun o => o, e', hb⟩
  · show g < W.heap.size
    by_cases hlt : g < W.heap.size
    · exact hlt
    · rw [Array.getElem?_eq_none (by omega)] at hb; cases hb
  · simp only [World.cell?, hb]
    simpa using hx
end Go.Proofs.YtkienkbaiejdmaaDoor.AE
namespace Go.Proofs.YtkienkbaiejdmaaDoor.AE
open Go.RowKit
theorem cells_of_strs {P : Program} {w : World} {base : Nat} {sp : Nat → Bool} {held : Bool} {fuel : Nat} {t e : TypeId} {n : Nat} {cs : List Value} {zs : List (List UInt8)} {p : List MemPlace}
    (ht : P.underlying t = some (.array n e)) (he : P.underlying e = some .string) (hce : P.cellsOf e = 1) (hct : P.cellsOf t = n)
    (h : DataW.trod (fun _ => ()) P w base sp held fuel t cs = some (.agg (zs.map fun z => .lit (.string z)), p)) : cs = zs.map fun z => Value.string ⟨z.toArray⟩ := by
  cases fuel with
  | zero => simp [DataW.trod] at h
  | succ fuel =>
    simp only [DataW.trod, ht, hce, hct, Nat.mul_one] at h
    split at h
    · rename_i hl
      obtain ⟨xs, hm, hx⟩ := Option.map_eq_some_iff.1 h
      have hxs : xs.map (·.1) = zs.map fun z => (DataW.lit (.string z) : DataW Unit) := by
        have := congrArg Prod.fst hx
        simpa using this
      have hxl : xs.length = n := by simpa using Lib.mapM_length hm
      have hzl : zs.length = n := by
        have := congrArg List.length hxs
        simp at this
        omega
      apply List.ext_getElem?
      intro i
      by_cases hi : i < n
      · obtain ⟨b, hb, hf⟩ := Lib.mapM_at hm i i (by simp [hi])
        obtain ⟨s, hc, rfl, _⟩ := DataW.trod_string he hf
        have h1 : cs[i]? = some (.string s) := by
          have := congrArg (·[0]?) hc
          simpa [List.getElem?_take, List.getElem?_drop] using this
        have h2 : (xs.map (·.1))[i]? = some (DataW.lit (.string s.data.toList) : DataW Unit) := by simp [hb]
        rw [hxs] at h2
        simp only [List.getElem?_map, Option.map_eq_some_iff, DataW.lit.injEq, Lit.string.injEq] at h2
        obtain ⟨z', hz', h3⟩ := h2
        have h4 : s = ⟨z'.toArray⟩ := by
          rw [h3]
        rw [h1, List.getElem?_map, hz', h4]; rfl
      · rw [List.getElem?_eq_none (by omega), List.getElem?_eq_none (by simp; omega)]
    · cases h
theorem laid_strs {P : Program} {W : World} {l : List (String × DataW Unit)} (hL : laidMet P l W) {name : String} {zs : List (List UInt8)} (h : (name, .agg (zs.map fun z => .lit (.string z))) ∈ l) {g : Nat} {t e : TypeId} {n : Nat} (hg : P.globalNamed name = some g)
    (hty : (P.globals[g]?).map (·.type) = some t) (ht : P.underlying t = some (.array n e)) (he : P.underlying e = some .string) (hce : P.cellsOf e = 1) (hct : P.cellsOf t = n) (h0 : 0 < zs.length) :
    (∀ (j : Nat) (u : Value), (zs.map fun z => Value.string ⟨z.toArray⟩)[j]? = some u → (G0 W).prot g j ∧ W.cell? ⟨g, j, none⟩ = some u) ∧ ¬ (G0 W).own g ∧ ∃ t, W.heap[g]? = some (.cells (zs.map fun z => Value.string ⟨z.toArray⟩).toArray t (0, 0)) := by
  obtain ⟨t', cs, fuel, p, h2, h3, h4, h5⟩ := laid_block hL h hg
  rw [hty] at h2
  cases h2
  have hcs := cells_of_strs ht he hce hct h4
  have hsz : cs.size = zs.length := by
    have := congrArg List.length hcs
    simpa using this
  obtain ⟨e', hb⟩ := h5 (by omega)
  have ha : cs = (zs.map fun z => Value.string ⟨z.toArray⟩).toArray := by rw [← hcs]
  rw [ha] at hb
  refine ⟨fun j u hu => ⟨?_, ?_⟩, fun o => o, e', hb⟩
  · show g < W.heap.size
    by_cases hlt : g < W.heap.size
    · exact hlt
    · rw [Array.getElem?_eq_none (by omega)] at hb; cases hb
  · simp only [World.cell?, hb]
    simpa using hu
end Go.Proofs.YtkienkbaiejdmaaDoor.AE
namespace Go.Proofs.YtkienkbaiejdmaaDoor
open Go.RowKit
set_option maxRecDepth 100000 in
theorem arr_cells {H : Type} {enc : TypeId × Value → H} {w : World} {base : Nat} {k : IntKind} {n : Nat} {t e : TypeId} {v : Value} {d : DataW H} {p : List MemPlace}
    (ht : Tryd.prog.underlying t = some (.array n e)) (he : Tryd.prog.underlying e = some (.int k)) (hC : Tryd.prog.cellsOf e = 1) (hT : Tryd.prog.cellsOf t = n)
    (hv : Value.okWide Tryd.prog w .any base t v) (h : DataW.Trod enc Tryd.prog w 0 (fun _ => true) true t v d p) :
    ∃ cs : Array Value, v = .agg cs ∧ cs.size = n ∧ ∀ i, i < n → ∃ z : Int, cs[i]? = some (.int k z) ∧ (Lit.int k z).wf = true := by
  obtain ⟨cs, rfl, hsz⟩ : ∃ cs, v = .agg cs ∧ cs.size = Tryd.prog.cellsOf t := by
    simp only [Value.okWide, ht] at hv
    obtain ⟨cs, h1, h2, _⟩ := hv
    exact ⟨cs, h1, h2⟩
  rw [hT] at hsz
  refine ⟨cs, rfl, hsz, fun i hi => ?_⟩
  obtain ⟨fuel, hf⟩ := h
  obtain ⟨xs, m, _, _, _, hxl, hx⟩ := DataW.trod_array ht hf
  have h1 := hx i hi
  rw [hC, Nat.mul_one] at h1
  have hil : i < cs.toList.length := by simpa [hsz] using hi
  have hdrop : ((Value.agg cs).cells.toList.drop i).take 1 = [cs.toList[i]] := by
    show (cs.toList.drop i).take 1 = _
    rw [List.drop_eq_getElem_cons hil]
    rfl
  rw [hdrop, List.getElem?_eq_getElem (by omega)] at h1
  obtain ⟨z, hz, _, hwf⟩ := DataW.trod_int he h1
  refine ⟨z, ?_, hwf⟩
  simp at hz
  rw [Array.getElem?_eq_getElem (by omega), hz]
set_option maxRecDepth 100000 in
theorem arr2_of {k : IntKind} {cs : Array Value} (hs : cs.size = 2) (h : ∀ i, i < 2 → ∃ z : Int, cs[i]? = some (.int k z) ∧ (Lit.int k z).wf = true) :
    ∃ a b : Int, cs = #[.int k a, .int k b] ∧ (Lit.int k a).wf = true ∧ (Lit.int k b).wf = true := by
  obtain ⟨a, ha, wa⟩ := h 0 (by omega)
  obtain ⟨b, hb, wb⟩ := h 1 (by omega)
  refine ⟨a, b, ?_, wa, wb⟩
  apply Array.ext_getElem?
  intro i
  match i with
  | 0 => rw [ha]; rfl
  | 1 => rw [hb]; rfl
  | i + 2 => rw [Array.getElem?_eq_none (by omega), Array.getElem?_eq_none (by simp)]
set_option maxRecDepth 100000 in
theorem arr3_of {k : IntKind} {cs : Array Value} (hs : cs.size = 3) (h : ∀ i, i < 3 → ∃ z : Int, cs[i]? = some (.int k z) ∧ (Lit.int k z).wf = true) :
    ∃ a b c : Int, cs = #[.int k a, .int k b, .int k c] ∧ (Lit.int k a).wf = true ∧ (Lit.int k b).wf = true ∧ (Lit.int k c).wf = true := by
  obtain ⟨a, ha, wa⟩ := h 0 (by omega)
  obtain ⟨b, hb, wb⟩ := h 1 (by omega)
  obtain ⟨c, hc, wc⟩ := h 2 (by omega)
  refine ⟨a, b, c, ?_, wa, wb, wc⟩
  apply Array.ext_getElem?
  intro i
  match i with
  | 0 => rw [ha]; rfl
  | 1 => rw [hb]; rfl
  | 2 => rw [hc]; rfl
  | i + 3 => rw [Array.getElem?_eq_none (by omega), Array.getElem?_eq_none (by simp)]
set_option maxRecDepth 100000 in
theorem arr2_in {H : Type} {enc : TypeId × Value → H} {w : World} {base : Nat} {k : IntKind} {t e : TypeId} {v : Value} {d : DataW H} {p : List MemPlace}
    (ht : Tryd.prog.underlying t = some (.array 2 e)) (he : Tryd.prog.underlying e = some (.int k)) (hC : Tryd.prog.cellsOf e = 1) (hT : Tryd.prog.cellsOf t = 2)
    (hv : Value.okWide Tryd.prog w .any base t v) (h : DataW.Trod enc Tryd.prog w 0 (fun _ => true) true t v d p) :
    ∃ a b : Int, v = .agg #[.int k a, .int k b] ∧ (Lit.int k a).wf = true ∧ (Lit.int k b).wf = true := by
  obtain ⟨cs, rfl, hs, hc⟩ := arr_cells ht he hC hT hv h
  obtain ⟨a, b, rfl, wa, wb⟩ := arr2_of hs hc
  exact ⟨a, b, rfl, wa, wb⟩
set_option maxRecDepth 100000 in
theorem arr3_in {H : Type} {enc : TypeId × Value → H} {w : World} {base : Nat} {k : IntKind} {t e : TypeId} {v : Value} {d : DataW H} {p : List MemPlace}
    (ht : Tryd.prog.underlying t = some (.array 3 e)) (he : Tryd.prog.underlying e = some (.int k)) (hC : Tryd.prog.cellsOf e = 1) (hT : Tryd.prog.cellsOf t = 3)
    (hv : Value.okWide Tryd.prog w .any base t v) (h : DataW.Trod enc Tryd.prog w 0 (fun _ => true) true t v d p) :
    ∃ a b c : Int, v = .agg #[.int k a, .int k b, .int k c] ∧ (Lit.int k a).wf = true ∧ (Lit.int k b).wf = true ∧ (Lit.int k c).wf = true := by
  obtain ⟨cs, rfl, hs, hc⟩ := arr_cells ht he hC hT hv h
  obtain ⟨a, b, c, rfl, wa, wb, wc⟩ := arr3_of hs hc
  exact ⟨a, b, c, rfl, wa, wb, wc⟩
set_option maxRecDepth 100000 in
/-- A struct of ints by value: its cells. -/
theorem str_cells {H : Type} {enc : TypeId × Value → H} {w : World} {base : Nat} {fs : Array Field} {t : TypeId} {v : Value} {d : DataW H} {p : List MemPlace}
    (ht : Tryd.prog.underlying t = some (.struct fs)) (hone : Deep.oneCellFields Tryd.prog fs = true) (hT : Tryd.prog.cellsOf t = fs.size) (hint : fs.toList.all (fun f => f.type == 3) = true)
    (hv : Value.okWide Tryd.prog w .any base t v) (h : DataW.Trod enc Tryd.prog w 0 (fun _ => true) true t v d p) :
    ∃ f : Nat → Int, v = .agg ((List.range fs.size).map fun i => Value.int .i64 (f i)).toArray ∧ ∀ i, i < fs.size → (Lit.int .i64 (f i)).wf = true := by
  obtain ⟨cs, rfl, hsz⟩ := WideShapes.okWide_struct ht hv
  rw [hT] at hsz
  obtain ⟨fuel, hf⟩ := h
  obtain ⟨xs, m, _, _, _, hxl, hx⟩ := DataW.trod_struct ht hf
  have cell : ∀ i, i < fs.size → ∃ z : Int, cs[i]? = some (.int .i64 z) ∧ (Lit.int .i64 z).wf = true := by
    intro i hi
    have hfi : fs[i]? = some fs[i] := Array.getElem?_eq_getElem hi
    obtain ⟨ho, hk⟩ := Deep.hone_of hone i _ hfi
    have h1 := hx i _ hfi
    have hty : fs[i].type = 3 := by
      have := List.all_eq_true.1 hint fs[i] (by simp)
      simpa using this
    have hil : i < cs.toList.length := by simpa [hsz] using hi
    have hdrop : ((Value.agg cs).cells.toList.drop i).take 1 = [cs.toList[i]] := by
      show (cs.toList.drop i).take 1 = _
      rw [List.drop_eq_getElem_cons hil]
      rfl
    rw [ho, hk, hdrop, hty, List.getElem?_eq_getElem (by omega)] at h1
    obtain ⟨z, hz, _, hwf⟩ := DataW.trod_int Tryd.underlying3 h1
    refine ⟨z, ?_, hwf⟩
    simp at hz
    rw [Array.getElem?_eq_getElem (by omega), hz]
  refine ⟨fun i => if h : i < fs.size then Classical.choose (cell i h) else 0, ?_, fun i hi => ?_⟩
  · congr 1
    apply Array.ext_getElem?
    intro i
    by_cases hi : i < fs.size
    · have h1 := (Classical.choose_spec (cell i hi)).1
      rw [h1]
      simp [hi]
    · rw [Array.getElem?_eq_none (by omega)]
      symm
      apply Array.getElem?_eq_none
      simp
      omega
  · dsimp only
    rw [dif_pos hi]
    exact (Classical.choose_spec (cell i hi)).2
set_option maxRecDepth 100000 in
theorem str7_in {H : Type} {enc : TypeId × Value → H} {w : World} {base : Nat} {fs : Array Field} {t : TypeId} {v : Value} {d : DataW H} {p : List MemPlace}
    (ht : Tryd.prog.underlying t = some (.struct fs)) (hone : Deep.oneCellFields Tryd.prog fs = true) (hT : Tryd.prog.cellsOf t = fs.size) (hint : fs.toList.all (fun f => f.type == 3) = true) (h7 : fs.size = 7)
    (hv : Value.okWide Tryd.prog w .any base t v) (h : DataW.Trod enc Tryd.prog w 0 (fun _ => true) true t v d p) :
    ∃ f : Nat → Int, v = .agg #[.int .i64 (f 0), .int .i64 (f 1), .int .i64 (f 2), .int .i64 (f 3), .int .i64 (f 4), .int .i64 (f 5), .int .i64 (f 6)] ∧ ∀ i, i < 7 → (Lit.int .i64 (f i)).wf = true := by
  obtain ⟨f, hv', hw⟩ := str_cells ht hone hT hint hv h
  rw [h7] at hv' hw
  exact ⟨f, hv', hw⟩
set_option maxRecDepth 100000 in
theorem str2_in {H : Type} {enc : TypeId × Value → H} {w : World} {base : Nat} {fs : Array Field} {t : TypeId} {v : Value} {d : DataW H} {p : List MemPlace}
    (ht : Tryd.prog.underlying t = some (.struct fs)) (hone : Deep.oneCellFields Tryd.prog fs = true) (hT : Tryd.prog.cellsOf t = fs.size) (hint : fs.toList.all (fun f => f.type == 3) = true) (h7 : fs.size = 2)
    (hv : Value.okWide Tryd.prog w .any base t v) (h : DataW.Trod enc Tryd.prog w 0 (fun _ => true) true t v d p) :
    ∃ f : Nat → Int, v = .agg #[.int .i64 (f 0), .int .i64 (f 1)] ∧ ∀ i, i < 2 → (Lit.int .i64 (f i)).wf = true := by
  obtain ⟨f, hv', hw⟩ := str_cells ht hone hT hint hv h
  rw [h7] at hv' hw
  exact ⟨f, hv', hw⟩
set_option maxRecDepth 100000 in
theorem str3_in {H : Type} {enc : TypeId × Value → H} {w : World} {base : Nat} {fs : Array Field} {t : TypeId} {v : Value} {d : DataW H} {p : List MemPlace}
    (ht : Tryd.prog.underlying t = some (.struct fs)) (hone : Deep.oneCellFields Tryd.prog fs = true) (hT : Tryd.prog.cellsOf t = fs.size) (hint : fs.toList.all (fun f => f.type == 3) = true) (h7 : fs.size = 3)
    (hv : Value.okWide Tryd.prog w .any base t v) (h : DataW.Trod enc Tryd.prog w 0 (fun _ => true) true t v d p) :
    ∃ f : Nat → Int, v = .agg #[.int .i64 (f 0), .int .i64 (f 1), .int .i64 (f 2)] ∧ ∀ i, i < 3 → (Lit.int .i64 (f i)).wf = true := by
  obtain ⟨f, hv', hw⟩ := str_cells ht hone hT hint hv h
  rw [h7] at hv' hw
  exact ⟨f, hv', hw⟩
set_option maxRecDepth 100000 in
theorem str4_in {H : Type} {enc : TypeId × Value → H} {w : World} {base : Nat} {fs : Array Field} {t : TypeId} {v : Value} {d : DataW H} {p : List MemPlace}
    (ht : Tryd.prog.underlying t = some (.struct fs)) (hone : Deep.oneCellFields Tryd.prog fs = true) (hT : Tryd.prog.cellsOf t = fs.size) (hint : fs.toList.all (fun f => f.type == 3) = true) (h7 : fs.size = 4)
    (hv : Value.okWide Tryd.prog w .any base t v) (h : DataW.Trod enc Tryd.prog w 0 (fun _ => true) true t v d p) :
    ∃ f : Nat → Int, v = .agg #[.int .i64 (f 0), .int .i64 (f 1), .int .i64 (f 2), .int .i64 (f 3)] ∧ ∀ i, i < 4 → (Lit.int .i64 (f i)).wf = true := by
  obtain ⟨f, hv', hw⟩ := str_cells ht hone hT hint hv h
  rw [h7] at hv' hw
  exact ⟨f, hv', hw⟩
set_option maxRecDepth 100000 in
theorem str5_in {H : Type} {enc : TypeId × Value → H} {w : World} {base : Nat} {fs : Array Field} {t : TypeId} {v : Value} {d : DataW H} {p : List MemPlace}
    (ht : Tryd.prog.underlying t = some (.struct fs)) (hone : Deep.oneCellFields Tryd.prog fs = true) (hT : Tryd.prog.cellsOf t = fs.size) (hint : fs.toList.all (fun f => f.type == 3) = true) (h7 : fs.size = 5)
    (hv : Value.okWide Tryd.prog w .any base t v) (h : DataW.Trod enc Tryd.prog w 0 (fun _ => true) true t v d p) :
    ∃ f : Nat → Int, v = .agg #[.int .i64 (f 0), .int .i64 (f 1), .int .i64 (f 2), .int .i64 (f 3), .int .i64 (f 4)] ∧ ∀ i, i < 5 → (Lit.int .i64 (f i)).wf = true := by
  obtain ⟨f, hv', hw⟩ := str_cells ht hone hT hint hv h
  rw [h7] at hv' hw
  exact ⟨f, hv', hw⟩
set_option maxRecDepth 100000 in
theorem str6_in {H : Type} {enc : TypeId × Value → H} {w : World} {base : Nat} {fs : Array Field} {t : TypeId} {v : Value} {d : DataW H} {p : List MemPlace}
    (ht : Tryd.prog.underlying t = some (.struct fs)) (hone : Deep.oneCellFields Tryd.prog fs = true) (hT : Tryd.prog.cellsOf t = fs.size) (hint : fs.toList.all (fun f => f.type == 3) = true) (h7 : fs.size = 6)
    (hv : Value.okWide Tryd.prog w .any base t v) (h : DataW.Trod enc Tryd.prog w 0 (fun _ => true) true t v d p) :
    ∃ f : Nat → Int, v = .agg #[.int .i64 (f 0), .int .i64 (f 1), .int .i64 (f 2), .int .i64 (f 3), .int .i64 (f 4), .int .i64 (f 5)] ∧ ∀ i, i < 6 → (Lit.int .i64 (f i)).wf = true := by
  obtain ⟨f, hv', hw⟩ := str_cells ht hone hT hint hv h
  rw [h7] at hv' hw
  exact ⟨f, hv', hw⟩
set_option maxRecDepth 100000 in
theorem str8_in {H : Type} {enc : TypeId × Value → H} {w : World} {base : Nat} {fs : Array Field} {t : TypeId} {v : Value} {d : DataW H} {p : List MemPlace}
    (ht : Tryd.prog.underlying t = some (.struct fs)) (hone : Deep.oneCellFields Tryd.prog fs = true) (hT : Tryd.prog.cellsOf t = fs.size) (hint : fs.toList.all (fun f => f.type == 3) = true) (h7 : fs.size = 8)
    (hv : Value.okWide Tryd.prog w .any base t v) (h : DataW.Trod enc Tryd.prog w 0 (fun _ => true) true t v d p) :
    ∃ f : Nat → Int, v = .agg #[.int .i64 (f 0), .int .i64 (f 1), .int .i64 (f 2), .int .i64 (f 3), .int .i64 (f 4), .int .i64 (f 5), .int .i64 (f 6), .int .i64 (f 7)] ∧ ∀ i, i < 8 → (Lit.int .i64 (f i)).wf = true := by
  obtain ⟨f, hv', hw⟩ := str_cells ht hone hT hint hv h
  rw [h7] at hv' hw
  exact ⟨f, hv', hw⟩
set_option maxRecDepth 100000 in
theorem str9_in {H : Type} {enc : TypeId × Value → H} {w : World} {base : Nat} {fs : Array Field} {t : TypeId} {v : Value} {d : DataW H} {p : List MemPlace}
    (ht : Tryd.prog.underlying t = some (.struct fs)) (hone : Deep.oneCellFields Tryd.prog fs = true) (hT : Tryd.prog.cellsOf t = fs.size) (hint : fs.toList.all (fun f => f.type == 3) = true) (h7 : fs.size = 9)
    (hv : Value.okWide Tryd.prog w .any base t v) (h : DataW.Trod enc Tryd.prog w 0 (fun _ => true) true t v d p) :
    ∃ f : Nat → Int, v = .agg #[.int .i64 (f 0), .int .i64 (f 1), .int .i64 (f 2), .int .i64 (f 3), .int .i64 (f 4), .int .i64 (f 5), .int .i64 (f 6), .int .i64 (f 7), .int .i64 (f 8)] ∧ ∀ i, i < 9 → (Lit.int .i64 (f i)).wf = true := by
  obtain ⟨f, hv', hw⟩ := str_cells ht hone hT hint hv h
  rw [h7] at hv' hw
  exact ⟨f, hv', hw⟩
set_option maxRecDepth 100000 in
theorem str10_in {H : Type} {enc : TypeId × Value → H} {w : World} {base : Nat} {fs : Array Field} {t : TypeId} {v : Value} {d : DataW H} {p : List MemPlace}
    (ht : Tryd.prog.underlying t = some (.struct fs)) (hone : Deep.oneCellFields Tryd.prog fs = true) (hT : Tryd.prog.cellsOf t = fs.size) (hint : fs.toList.all (fun f => f.type == 3) = true) (h7 : fs.size = 10)
    (hv : Value.okWide Tryd.prog w .any base t v) (h : DataW.Trod enc Tryd.prog w 0 (fun _ => true) true t v d p) :
    ∃ f : Nat → Int, v = .agg #[.int .i64 (f 0), .int .i64 (f 1), .int .i64 (f 2), .int .i64 (f 3), .int .i64 (f 4), .int .i64 (f 5), .int .i64 (f 6), .int .i64 (f 7), .int .i64 (f 8), .int .i64 (f 9)] ∧ ∀ i, i < 10 → (Lit.int .i64 (f i)).wf = true := by
  obtain ⟨f, hv', hw⟩ := str_cells ht hone hT hint hv h
  rw [h7] at hv' hw
  exact ⟨f, hv', hw⟩
end Go.Proofs.YtkienkbaiejdmaaDoor
namespace Go.Proofs.YtkienkbaiejdmaaDoor
open Go.RowKit AE
theorem AE.ro28c_of {W : World} (h : laidMet Tryd.prog Rows.confChecksRow.laid W) : ∃ tS pS tR pR, Ro (roN tS pS tR pR) (G0 W) W := by
  obtain ⟨tS, pS, hS⟩ := laid_error h (name := "strconv.ErrSyntax") (nm := "*errors.errorString") (d := _) (List.mem_of_getElem? (i := 4) rfl) (g := 1) (by kernel_rfl) (t := 80) (by kernel_rfl) Tryd.underlying80
  obtain ⟨tR, pR, hR⟩ := laid_error h (name := "strconv.ErrRange") (nm := "*errors.errorString") (d := _) (List.mem_of_getElem? (i := 3) rfl) (g := 2) (by kernel_rfl) (t := 80) (by kernel_rfl) Tryd.underlying80
  have hT := laid_table h (name := "internal/strconv.uint64pow10") (k := .u64) (zs := Lib.pow10Tab) (List.mem_of_getElem? (i := 2) (by kernel_rfl)) (g := 3) (by kernel_rfl) (t := 127) (by kernel_rfl) Tryd.underlying127 Tryd.underlying104 (by kernel_rfl) (by kernel_rfl) (by decide)
  have hK := laid_strs h (name := "lockkeeper/knob.names") (zs := [[108, 111, 119], [104, 105, 103, 104], [99, 117, 116], [108, 105, 102, 116], [102, 108, 111, 111, 114], [116, 117, 114, 110], [100, 119, 101, 108, 108]]) (List.mem_of_getElem? (i := 5) (by kernel_rfl)) (g := 0) (by kernel_rfl) (t := 83) (by kernel_rfl) Tryd.underlying83 Tryd.underlying9 (by kernel_rfl) (by kernel_rfl) (by decide)
  refine ⟨tS, pS, tR, pR, fun b cs hb => ?_⟩
  unfold roN roM at hb
  split at hb
  · rename_i e; subst e; cases hb; exact hK
  · unfold ro05 at hb
    split at hb
    · cases hb; exact hT
    · cases hb; exact hS
    · cases hb; exact hR
    · cases hb
theorem w_ConfChecks (w : World) (hR : ∃ tS pS tR pR, Ro (roN tS pS tR pR) (G0 w) w) {v : Value} (x1 x2 x3 x4 x5 x6 x7 x8 x9 x10 x11 x12 x13 : Int) (cs : List Cl) (hv : RV (G0 w) w (svcA x1 x2 x3 x4 x5 x6 x7 x8 x9 x10 x11 x12 x13 cs) v) (_ : ∀ z ∈ [x1, x2, x3, x4, x5, x6, x7, x8, x9, x10, x11, x12, x13], w64 z) (_ : ∀ c ∈ cs, clOk c)
    {v2 : Value} (y1 y2 y3 y4 y5 y6 y7 y8 y9 y10 y11 y12 y13 : Int) (ds : List Cl) (hv2 : RV (G0 w) w (svcA y1 y2 y3 y4 y5 y6 y7 y8 y9 y10 y11 y12 y13 ds) v2) (_ : ∀ z ∈ [y1, y2, y3, y4, y5, y6, y7, y8, y9, y10, y11, y12, y13], w64 z) (_ : ∀ c ∈ ds, clOk c) (a b c : Int) (_ : ∀ n ∈ [a, b, c], (Lit.int .i64 n).wf = true) :
    Calls Tryd.prog 3 #[v, v2, .agg #[.int .i64 a, .int .i64 b, .int .i64 c]] w fun e w' => e = .returned (.bool true) ∧ Below w.heap.size w w' := by
  obtain ⟨tS, pS, tR, pR, hR⟩ := hR
  exact law_true (fs_checks x1 x2 x3 x4 x5 x6 x7 x8 x9 x10 x11 x12 x13 y1 y2 y3 y4 y5 y6 y7 y8 y9 y10 y11 y12 y13 cs ds a b c) w _ hR (.cons hv (.cons hv2 (.cons (.v _) .nil)))
end Go.Proofs.YtkienkbaiejdmaaDoor
