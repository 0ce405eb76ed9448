
/-
  Layer 25: the reply of a body, as the program has it.
-/
import Derived.Test.YtlonpmcgejdkkaaGreatDoorAEOct
import Derived.Test.YtlonpmcgejdkkaaGreatDoorAEDefer
namespace Go.Proofs.YtlonpmcgejdkkaaGreatDoor.AE.A25
set_option maxRecDepth 100000
open Go.RowKit Oc
def ro25 : Nat → Option (List Value) := fun b => match b with
  | 2 => some ([6, 1, 1, 1, 1, 4, 1].map fun (n : Int) => .int .i64 n)
  | _ => none
noncomputable def prA : FuncId → Option (List AV → AH → Ans) := fun g => match g with
  | 67 => some (pure? putP)
  | 50 => some (own? (takeP 116))
  | 70 => some (pure? numP)
  | 83 => some (pure? ofP)
  | _ => none
theorem knownA : Known ro25 prA := by
  intro g p h
  unfold prA at h
  split at h
  · cases h; exact put_ok _
  · cases h; exact take_ok _
  · cases h; exact num_ok _
  · cases h; exact of_ok _
  · cases h
def req (f : Nat → Int) : AV := .v (.agg #[.int .i64 (f 0), .int .i64 (f 1), .int .i64 (f 2), .int .i64 (f 3), .int .i64 (f 4), .int .i64 (f 5), .int .i64 (f 6)])
theorem t_check (f : Nat → Int) (Φ : AV → Prop) : callK ro25 (fun _ => false) prA 10 55 [req f] (hp [] []) (fun r h => some (h.cd ∧ Φ r)) =
    (bif (decide ((0 : Int) ≤ (f (0 : Nat)))) then (bif (decide ((f (0 : Nat)) ≤ (281474976710655 : Int))) then (bif (decide ((0 : Int) ≤ (f (1 : Nat)))) then (bif (decide ((f (1 : Nat)) ≤ (7 : Int))) then (bif (decide ((-(1 : Int)) ≤ (f (2 : Nat)))) then (bif (decide ((f (2 : Nat)) ≤ (7 : Int))) then (bif ((f (2 : Nat)) != (f (1 : Nat))) then (bif (decide ((1 : Int) ≤ (f (3 : Nat)))) then (bif (decide ((f (3 : Nat)) ≤ (10 : Int))) then (bif (decide ((0 : Int) ≤ (f (4 : Nat)))) then (bif (decide ((f (4 : Nat)) ≤ (128 : Int))) then (bif (decide ((0 : Int) ≤ (f (5 : Nat)))) then (bif (decide ((f (5 : Nat)) ≤ (4294967295 : Int))) then (bif (decide ((0 : Int) ≤ (f (6 : Nat)))) then (bif (decide ((f (6 : Nat)) ≤ (7 : Int))) then (some (True ∧ (Φ (AV.v (Value.int IntKind.i64 (0 : Int)))))) else (some (True ∧ (Φ (AV.v (Value.int IntKind.i64 (1 : Int))))))) else (some (True ∧ (Φ (AV.v (Value.int IntKind.i64 (1 : Int))))))) else (some (True ∧ (Φ (AV.v (Value.int IntKind.i64 (1 : Int))))))) else (some (True ∧ (Φ (AV.v (Value.int IntKind.i64 (1 : Int))))))) else (some (True ∧ (Φ (AV.v (Value.int IntKind.i64 (1 : Int))))))) else (some (True ∧ (Φ (AV.v (Value.int IntKind.i64 (1 : Int))))))) else (some (True ∧ (Φ (AV.v (Value.int IntKind.i64 (1 : Int))))))) else (some (True ∧ (Φ (AV.v (Value.int IntKind.i64 (1 : Int))))))) else (some (True ∧ (Φ (AV.v (Value.int IntKind.i64 (1 : Int))))))) else (some (True ∧ (Φ (AV.v (Value.int IntKind.i64 (1 : Int))))))) else (some (True ∧ (Φ (AV.v (Value.int IntKind.i64 (1 : Int))))))) else (some (True ∧ (Φ (AV.v (Value.int IntKind.i64 (1 : Int))))))) else (some (True ∧ (Φ (AV.v (Value.int IntKind.i64 (1 : Int))))))) else (some (True ∧ (Φ (AV.v (Value.int IntKind.i64 (1 : Int))))))) else (some (True ∧ (Φ (AV.v (Value.int IntKind.i64 (1 : Int))))))) := by kernel_rfl
theorem t_rcheck (f : Nat → Int) (Φ : AV → Prop) : callK ro25 (fun _ => false) prA 10 63 [req f] (hp [] []) (fun r h => some (h.cd ∧ Φ r)) =
    (bif (decide ((f (0 : Nat)) < (0 : Int))) then (some (True ∧ (Φ (AV.v (Value.int IntKind.i64 (1 : Int)))))) else (bif (decide ((281474976710655 : Int) < (f (0 : Nat)))) then (some (True ∧ (Φ (AV.v (Value.int IntKind.i64 (1 : Int)))))) else (bif (decide ((f (1 : Nat)) < (0 : Int))) then (some (True ∧ (Φ (AV.v (Value.int IntKind.i64 (1 : Int)))))) else (bif (decide ((7 : Int) < (f (1 : Nat)))) then (some (True ∧ (Φ (AV.v (Value.int IntKind.i64 (1 : Int)))))) else (bif (decide ((f (2 : Nat)) < (-(1 : Int)))) then (some (True ∧ (Φ (AV.v (Value.int IntKind.i64 (1 : Int)))))) else (bif (decide ((7 : Int) < (f (2 : Nat)))) then (some (True ∧ (Φ (AV.v (Value.int IntKind.i64 (1 : Int)))))) else (bif ((f (2 : Nat)) == (f (1 : Nat))) then (some (True ∧ (Φ (AV.v (Value.int IntKind.i64 (1 : Int)))))) else (bif (decide ((f (3 : Nat)) < (1 : Int))) then (some (True ∧ (Φ (AV.v (Value.int IntKind.i64 (1 : Int)))))) else (bif (decide ((10 : Int) < (f (3 : Nat)))) then (some (True ∧ (Φ (AV.v (Value.int IntKind.i64 (1 : Int)))))) else (bif (decide ((f (4 : Nat)) < (0 : Int))) then (some (True ∧ (Φ (AV.v (Value.int IntKind.i64 (1 : Int)))))) else (bif (decide ((128 : Int) < (f (4 : Nat)))) then (some (True ∧ (Φ (AV.v (Value.int IntKind.i64 (1 : Int)))))) else (bif (decide ((f (5 : Nat)) < (0 : Int))) then (some (True ∧ (Φ (AV.v (Value.int IntKind.i64 (1 : Int)))))) else (bif (decide ((4294967295 : Int) < (f (5 : Nat)))) then (some (True ∧ (Φ (AV.v (Value.int IntKind.i64 (1 : Int)))))) else (bif (decide ((f (6 : Nat)) < (0 : Int))) then (some (True ∧ (Φ (AV.v (Value.int IntKind.i64 (1 : Int)))))) else (bif (decide ((7 : Int) < (f (6 : Nat)))) then (some (True ∧ (Φ (AV.v (Value.int IntKind.i64 (1 : Int)))))) else (some (True ∧ (Φ (AV.v (Value.int IntKind.i64 (0 : Int))))))))))))))))))))) := by kernel_rfl
end Go.Proofs.YtlonpmcgejdkkaaGreatDoor.AE.A25
namespace Go.Proofs.YtlonpmcgejdkkaaGreatDoor.AE.Nm
set_option maxRecDepth 100000
open Go.RowKit Oc
noncomputable def prO : FuncId → Option (List AV → AH → Ans) := fun g => match g with
  | 67 => some (pure? putP)
  | 50 => some (own? (takeP 116))
  | 70 => some (pure? numP)
  | 83 => some (pure? ofP)
  | _ => none
theorem knownO (ro : Nat → Option (List Value)) : Known ro prO := by
  intro g p h
  unfold prO at h
  split at h
  · cases h; exact put_ok _
  · cases h; exact take_ok _
  · cases h; exact num_ok _
  · cases h; exact of_ok _
  · cases h
def gi (n : Int) : AV := .v (.int .i64 n)
def nilS : AV := .v (.slice none 0 0)
theorem n_pre (s : ByteArray) (xs : List AV) (tip : Tip) (R : Exit → List AV → AH → Prop) : codeL nro (fun _ => false) prO 5 ((flatten (bodyOf 59)).take 3) ([.v (.string s), .lst 1 xs tip] ++ List.replicate 28 (.v undef)) (hp [] []) (kp [0, 1, 4, 5, 6] R) =
    (some (True ∧ (R Exit.normal [(AV.v (Value.string s)), (AV.lst (1 : Nat) xs tip), AV.dead, AV.dead, (AV.v (Value.slice none (0 : Nat) (0 : Nat))), (AV.v (Value.slice none (0 : Nat) (0 : Nat))), (AV.v (Value.int IntKind.i64 (0 : Int))), AV.dead, AV.dead, AV.dead, AV.dead, AV.dead, AV.dead, AV.dead, AV.dead, AV.dead, AV.dead, AV.dead, AV.dead, AV.dead, AV.dead, AV.dead, AV.dead, AV.dead, AV.dead, AV.dead, AV.dead, AV.dead, AV.dead, AV.dead] (AH.mk (@List.nil (Prod Go.TypeId (List AV))) (@List.nil Nat) (0 : Nat) (0 : Nat) true (@List.nil (Prod Nat Bool)) True)))) := by kernel_rfl
theorem n_body0 (s : ByteArray) (wl : List Int) (tip : Tip) (i : Nat) (R : Exit → List AV → AH → Prop) : code nro (fun _ => false) prO 5 (sub (bodyOf 59) [1, 1, 0, 1, 0, 0]) ([.v (.string s), .lst 1 (wl.map gi) tip, .dead, .dead, nilS, nilS, .v (.int .i64 (Int.ofNat i))] ++ List.replicate 23 .dead) (hp [] []) (kp [0, 1, 4, 5, 6] R) =
    (bif (decide ((Int.ofNat i) < ((List.length (List.map Nm.gi wl)) : Int))) then (some ((cdb (cds (cdb (cdb (cds True (elemB Tryz.prog (3 : Nat) (List.map Nm.gi wl) (Int.ofNat i)) (((0 : Int) ≤ (Int.ofNat i)) ∧ (((List.map Nm.gi wl)[(Int.toNat (Int.ofNat i))]?) = (some (AV.v (Value.int IntKind.i64 (exInt (List.getD (List.map Nm.gi wl) (Int.toNat (Int.ofNat i)) AV.dead)))))))) (decide (((0 : Int) ≤ (0 : Int)) ∧ (((0 : Int) ≤ (exInt (List.getD (List.map Nm.gi wl) (Int.toNat (Int.ofNat i)) AV.dead))) ∧ ((exInt (List.getD (List.map Nm.gi wl) (Int.toNat (Int.ofNat i)) AV.dead)) ≤ ((ByteArray.size s) : Int)))))) (decide ((ByteArray.size (ByteArray.extract s (0 : Nat) (Int.toNat (exInt (List.getD (List.map Nm.gi wl) (Int.toNat (Int.ofNat i)) AV.dead))))) ≤ (6 : Nat)))) (elemB Tryz.prog (3 : Nat) (List.map Nm.gi wl) (Int.ofNat i)) (((0 : Int) ≤ (Int.ofNat i)) ∧ (((List.map Nm.gi wl)[(Int.toNat (Int.ofNat i))]?) = (some (AV.v (Value.int IntKind.i64 (exInt (List.getD (List.map Nm.gi wl) (Int.toNat (Int.ofNat i)) AV.dead)))))))) (decide (((0 : Int) ≤ (exInt (List.getD (List.map Nm.gi wl) (Int.toNat (Int.ofNat i)) AV.dead))) ∧ (((exInt (List.getD (List.map Nm.gi wl) (Int.toNat (Int.ofNat i)) AV.dead)) ≤ ((ByteArray.size s) : Int)) ∧ (((ByteArray.size s) : Int) ≤ ((ByteArray.size s) : Int)))))) ∧ (R Exit.normal [(AV.v (Value.string (ByteArray.extract s (Int.toNat (exInt (List.getD (List.map Nm.gi wl) (Int.toNat (Int.ofNat i)) AV.dead))) (Int.toNat ((ByteArray.size s) : Int))))), (AV.lst (1 : Nat) (List.map Nm.gi wl) tip), AV.dead, AV.dead, (AV.v (Value.slice none (0 : Nat) (0 : Nat))), (AV.lst (1 : Nat) [(AV.v (Value.int IntKind.i64 ((Oc.num (Array.toList (ByteArray.data (ByteArray.extract s (0 : Nat) (Int.toNat (exInt (List.getD (List.map Nm.gi wl) (Int.toNat (Int.ofNat i)) AV.dead))))))) : Int)))] (Tip.tp (List.length (@List.nil Nat)) (0 : Nat))), (AV.v (Value.int IntKind.i64 (IntKind.wrap IntKind.i64 ((Int.ofNat i) + (1 : Int))))), AV.dead, AV.dead, AV.dead, AV.dead, AV.dead, AV.dead, AV.dead, AV.dead, AV.dead, AV.dead, AV.dead, AV.dead, AV.dead, AV.dead, AV.dead, AV.dead, AV.dead, AV.dead, AV.dead, AV.dead, AV.dead, AV.dead, AV.dead] (AH.mk (@List.nil (Prod Go.TypeId (List AV))) [(0 : Nat)] (0 : Nat) (0 : Nat) true (@List.nil (Prod Nat Bool)) True)))) else (some (True ∧ (R (Exit.exit (0 : Nat)) [(AV.v (Value.string s)), (AV.lst (1 : Nat) (List.map Nm.gi wl) tip), AV.dead, AV.dead, (AV.v (Value.slice none (0 : Nat) (0 : Nat))), (AV.v (Value.slice none (0 : Nat) (0 : Nat))), (AV.v (Value.int IntKind.i64 (Int.ofNat i))), AV.dead, AV.dead, AV.dead, AV.dead, AV.dead, AV.dead, AV.dead, AV.dead, AV.dead, AV.dead, AV.dead, AV.dead, AV.dead, AV.dead, AV.dead, AV.dead, AV.dead, AV.dead, AV.dead, AV.dead, AV.dead, AV.dead, AV.dead] (AH.mk (@List.nil (Prod Go.TypeId (List AV))) (@List.nil Nat) (0 : Nat) (0 : Nat) true (@List.nil (Prod Nat Bool)) True))))) := by kernel_rfl
theorem n_body1 (s : ByteArray) (wl : List Int) (tip : Tip) (i ver : Nat) (xs : List Int) (R : Exit → List AV → AH → Prop) : code nro (fun _ => false) prO 5 (sub (bodyOf 59) [1, 1, 0, 1, 0, 0]) ([.v (.string s), .lst 1 (wl.map gi) tip, .dead, .dead, nilS, .lst 1 (xs.map gi) (.tp 0 ver), .v (.int .i64 (Int.ofNat i))] ++ List.replicate 23 .dead) (hp [] [ver]) (kp [0, 1, 4, 5, 6] R) =
    (bif (decide ((Int.ofNat i) < ((List.length (List.map Nm.gi wl)) : Int))) then (some ((cdb (cds (cdb (cdb (cdb (cds True (elemB Tryz.prog (3 : Nat) (List.map Nm.gi wl) (Int.ofNat i)) (((0 : Int) ≤ (Int.ofNat i)) ∧ (((List.map Nm.gi wl)[(Int.toNat (Int.ofNat i))]?) = (some (AV.v (Value.int IntKind.i64 (exInt (List.getD (List.map Nm.gi wl) (Int.toNat (Int.ofNat i)) AV.dead)))))))) (decide (((0 : Int) ≤ (0 : Int)) ∧ (((0 : Int) ≤ (exInt (List.getD (List.map Nm.gi wl) (Int.toNat (Int.ofNat i)) AV.dead))) ∧ ((exInt (List.getD (List.map Nm.gi wl) (Int.toNat (Int.ofNat i)) AV.dead)) ≤ ((ByteArray.size s) : Int)))))) (decide ((ByteArray.size (ByteArray.extract s (0 : Nat) (Int.toNat (exInt (List.getD (List.map Nm.gi wl) (Int.toNat (Int.ofNat i)) AV.dead))))) ≤ (6 : Nat)))) (decide ((((((List.length (List.map Nm.gi xs)) + (List.length [(AV.v (Value.int IntKind.i64 ((Oc.num (Array.toList (ByteArray.data (ByteArray.extract s (0 : Nat) (Int.toNat (exInt (List.getD (List.map Nm.gi wl) (Int.toNat (Int.ofNat i)) AV.dead))))))) : Int)))])) * (8 : Nat)) ≤ (140737488355328 : Nat)) ∧ (((List.length (List.map Nm.gi xs)) + (List.length [(AV.v (Value.int IntKind.i64 ((Oc.num (Array.toList (ByteArray.data (ByteArray.extract s (0 : Nat) (Int.toNat (exInt (List.getD (List.map Nm.gi wl) (Int.toNat (Int.ofNat i)) AV.dead))))))) : Int)))])) ≤ (9223372036854775807 : Nat))) ∧ (ver = ver)))) (elemB Tryz.prog (3 : Nat) (List.map Nm.gi wl) (Int.ofNat i)) (((0 : Int) ≤ (Int.ofNat i)) ∧ (((List.map Nm.gi wl)[(Int.toNat (Int.ofNat i))]?) = (some (AV.v (Value.int IntKind.i64 (exInt (List.getD (List.map Nm.gi wl) (Int.toNat (Int.ofNat i)) AV.dead)))))))) (decide (((0 : Int) ≤ (exInt (List.getD (List.map Nm.gi wl) (Int.toNat (Int.ofNat i)) AV.dead))) ∧ (((exInt (List.getD (List.map Nm.gi wl) (Int.toNat (Int.ofNat i)) AV.dead)) ≤ ((ByteArray.size s) : Int)) ∧ (((ByteArray.size s) : Int) ≤ ((ByteArray.size s) : Int)))))) ∧ (R Exit.normal [(AV.v (Value.string (ByteArray.extract s (Int.toNat (exInt (List.getD (List.map Nm.gi wl) (Int.toNat (Int.ofNat i)) AV.dead))) (Int.toNat ((ByteArray.size s) : Int))))), (AV.lst (1 : Nat) (List.map Nm.gi wl) tip), AV.dead, AV.dead, (AV.v (Value.slice none (0 : Nat) (0 : Nat))), (AV.lst (1 : Nat) ((List.map Nm.gi xs) ++ [(AV.v (Value.int IntKind.i64 ((Oc.num (Array.toList (ByteArray.data (ByteArray.extract s (0 : Nat) (Int.toNat (exInt (List.getD (List.map Nm.gi wl) (Int.toNat (Int.ofNat i)) AV.dead))))))) : Int)))]) (Tip.tp (0 : Nat) (ver + (1 : Nat)))), (AV.v (Value.int IntKind.i64 (IntKind.wrap IntKind.i64 ((Int.ofNat i) + (1 : Int))))), AV.dead, AV.dead, AV.dead, AV.dead, AV.dead, AV.dead, AV.dead, AV.dead, AV.dead, AV.dead, AV.dead, AV.dead, AV.dead, AV.dead, AV.dead, AV.dead, AV.dead, AV.dead, AV.dead, AV.dead, AV.dead, AV.dead, AV.dead] (AH.mk (@List.nil (Prod Go.TypeId (List AV))) [(ver + (1 : Nat))] (0 : Nat) (0 : Nat) true (@List.nil (Prod Nat Bool)) True)))) else (some (True ∧ (R (Exit.exit (0 : Nat)) [(AV.v (Value.string s)), (AV.lst (1 : Nat) (List.map Nm.gi wl) tip), AV.dead, AV.dead, (AV.v (Value.slice none (0 : Nat) (0 : Nat))), (AV.lst (1 : Nat) (List.map Nm.gi xs) (Tip.tp (0 : Nat) ver)), (AV.v (Value.int IntKind.i64 (Int.ofNat i))), AV.dead, AV.dead, AV.dead, AV.dead, AV.dead, AV.dead, AV.dead, AV.dead, AV.dead, AV.dead, AV.dead, AV.dead, AV.dead, AV.dead, AV.dead, AV.dead, AV.dead, AV.dead, AV.dead, AV.dead, AV.dead, AV.dead, AV.dead] (AH.mk (@List.nil (Prod Go.TypeId (List AV))) [ver] (0 : Nat) (0 : Nat) true (@List.nil (Prod Nat Bool)) True))))) := by kernel_rfl
theorem n_post (x : AV) (t : List Nat) (R : Exit → List AV → AH → Prop) : codeL nro (fun _ => false) prO 5 ((flatten (bodyOf 59)).drop 4) ([.dead, .dead, .dead, .dead, nilS, x] ++ List.replicate 24 .dead) (hp [] t) (kp [4] R) =
    (some (True ∧ (R Exit.ret [AV.dead, AV.dead, AV.dead, AV.dead, x, AV.dead, AV.dead, AV.dead, AV.dead, AV.dead, AV.dead, AV.dead, AV.dead, AV.dead, AV.dead, AV.dead, AV.dead, AV.dead, AV.dead, AV.dead, AV.dead, AV.dead, AV.dead, AV.dead, AV.dead, AV.dead, AV.dead, AV.dead, AV.dead, AV.dead] (AH.mk (@List.nil (Prod Go.TypeId (List AV))) t (0 : Nat) (0 : Nat) true (@List.nil (Prod Nat Bool)) True)))) := by kernel_rfl
end Go.Proofs.YtlonpmcgejdkkaaGreatDoor.AE.Nm
namespace Go.Proofs.YtlonpmcgejdkkaaGreatDoor.AE.Nm
set_option maxRecDepth 100000
open Go.RowKit Oc
def numsOf : List Int → ByteArray → List Int
  | [], _ => []
  | w :: ws, s => takeN s w :: numsOf ws (takeR s w)
def enough : List Int → ByteArray → Bool
  | [], _ => true
  | w :: ws, s => inT s w && enough ws (takeR s w)
theorem ne_nil {α : Type} {l : List α} (h : l.isEmpty = false) : l ≠ [] := by cases l <;> simp_all
theorem _root_.Go.Proofs.YtlonpmcgejdkkaaGreatDoor.AE.Fs.ro {g : FuncId} {args : List AV} {H : AH} {Φ : AV → AH → Prop} (h : Fs Tryz.prog nro g args H Φ) (ro : Nat → Option (List Value)) : Fs Tryz.prog ro g args H Φ :=
  fun G W cargs hI _ hA => h G W cargs hI (ro_none _ _) hA
theorem gi_get {wl : List Int} {i : Nat} (h : i < wl.length) : (wl.map gi)[i]? = some (gi wl[i]) := by simp [h]
theorem gi_ex {wl : List Int} {i : Nat} (h : i < wl.length) : exInt ((wl.map gi).getD (Int.toNat (Int.ofNat i)) .dead) = wl[i] := by
  show exInt ((wl.map gi).getD i .dead) = wl[i]
  rw [List.getD_eq_getElem?_getD, gi_get h]; rfl
theorem takeR_le (s : ByteArray) (w : Int) : (takeR s w).size ≤ s.size := by
  unfold takeR
  split
  · simp only [ByteArray.size_extract]; omega
  · exact Nat.le_refl _
theorem wrap_small (n : Nat) (h : n ≤ 1000000) : IntKind.wrap .i64 (Int.ofNat n + 1) = Int.ofNat (n + 1) := by
  rw [IntKind.wrap_i64]
  show _ = ((n + 1 : Nat) : Int)
  have : (Int.ofNat n) = (n : Int) := rfl
  rw [this]
  omega
theorem sl_num : slotsOf 59 = 30 := by kernel_rfl
theorem re_num : resultsOf 59 = [.tmp 4] := by kernel_rfl
theorem fl_num : (flatten (bodyOf 59)).drop 3 = .block 0 (.loop (sub (bodyOf 59) [1, 1, 0, 1, 0, 0])) :: (flatten (bodyOf 59)).drop 4 := by kernel_rfl
def A0 (s : ByteArray) (wl : List Int) (tip : Tip) (i : Nat) : List AV := [.v (.string s), .lst 1 (wl.map gi) tip, .dead, .dead, nilS, nilS, .v (.int .i64 (Int.ofNat i))] ++ List.replicate 23 .dead
def A1 (s : ByteArray) (wl : List Int) (tip : Tip) (i ver : Nat) (xs : List Int) : List AV := [.v (.string s), .lst 1 (wl.map gi) tip, .dead, .dead, nilS, .lst 1 (xs.map gi) (.tp 0 ver), .v (.int .i64 (Int.ofNat i))] ++ List.replicate 23 .dead
theorem fs_nums (s : ByteArray) (wl : List Int) (tip : Tip) (hs : s.size ≤ maxLen) (hl : wl.length ≤ 1000) (hne : wl ≠ []) (hen : enough wl s = true) :
    Fs Tryz.prog nro 59 [.v (.string s), .lst 1 (wl.map gi) tip] (hp [] []) fun r _ => clean r = some (.lst 1 ((numsOf wl s).map gi) .no) := by
  refine Fs.of_body (has_fn (by kernel_rfl)) ?_
  rw [sl_num, re_num]
  refine Tr.of_flat (Trl.split 3 (Trl.of_code (knownO nro) (ne_nil (by kernel_rfl)) (n_pre s (wl.map gi) tip _) ⟨trivial, ?_⟩))
  show Trl _ _ ((flatten (bodyOf 59)).drop 3) _ _ _
  rw [fl_num]
  let I : Nat → List AV → AH → Prop := fun m act H => ∃ (i : Nat) (s' : ByteArray) (xs : List Int), i ≤ wl.length ∧ m = wl.length - i ∧ enough (wl.drop i) s' = true ∧ xs ++ numsOf (wl.drop i) s' = numsOf wl s ∧ xs.length = i ∧ s'.size ≤ maxLen ∧
    ((xs = [] ∧ act = A0 s' wl tip i ∧ H = hp [] []) ∨ ∃ ver, act = A1 s' wl tip i ver xs ∧ H = hp [] [ver])
  refine Tr.block (Tr.loop I ?_ (m := wl.length) ⟨0, s, [], Nat.zero_le _, rfl, hen, rfl, rfl, hs, .inl ⟨rfl, rfl, rfl⟩⟩)
  have step : ∀ (i : Nat) (s' : ByteArray), i < wl.length → enough (wl.drop i) s' = true → ∃ w, wl[i]? = some w ∧ exInt ((wl.map gi).getD (Int.toNat (Int.ofNat i)) .dead) = w ∧ (wl.map gi)[Int.toNat (Int.ofNat i)]? = some (gi w) ∧ inT s' w = true ∧ enough (wl.drop (i + 1)) (takeR s' w) = true ∧ numsOf (wl.drop i) s' = takeN s' w :: numsOf (wl.drop (i + 1)) (takeR s' w) := by
    intro i s' hi he
    have hd : wl.drop i = wl[i] :: wl.drop (i + 1) := List.drop_eq_getElem_cons hi
    rw [hd] at he
    simp only [enough, Bool.and_eq_true] at he
    exact ⟨wl[i], by simp [hi], gi_ex hi, gi_get hi, he.1, he.2, by rw [hd]; rfl⟩
  rintro m act H ⟨i, s', xs, hi, rfl, he, hx, hxl, hs', ⟨rfl, rfl, rfl⟩ | ⟨ver, rfl, rfl⟩⟩
  · refine Tr.of_code (knownO nro) (n_body0 s' wl tip i _) (holds_bif (fun hlt => ?_) (fun hge => ?_))
    · have hlt : i < wl.length := by
        have := of_decide_eq_true hlt
        rw [List.length_map] at this
        exact Int.ofNat_lt.1 this
      obtain ⟨w, h1, h2, h3, h4, h5, h6⟩ := step i s' hlt he
      rw [h2, h3]
      have hT := h4
      simp only [inT, Bool.and_eq_true, decide_eq_true_eq] at hT
      obtain ⟨⟨t1, t2⟩, t3⟩ := hT
      have hwr := wrap_small i (by omega)
      rw [hwr]
      have hN : ((num (s'.extract 0 w.toNat).data.toList : Nat) : Int) = takeN s' w := by unfold takeN; rw [if_pos h4]
      have hR : s'.extract w.toNat (Int.toNat ((s'.size : Nat) : Int)) = takeR s' w := by unfold takeR; rw [if_pos h4]; rfl
      rw [hN, hR]
      have h0 : (0 : Int) ≤ Int.ofNat i := Int.natCast_nonneg i
      refine ⟨?_, ?_⟩
      · repeat' first
          | with_reducible exact trivial
          | with_reducible refine cdb_iff.2 ⟨?_, ?_⟩
          | refine cds_of ?_ ⟨h0, rfl⟩
        all_goals (refine decide_eq_true ?_; first | omega | (simp only [ByteArray.size_extract]; omega))
      · refine ⟨wl.length - (i + 1), by omega, i + 1, takeR s' w, [takeN s' w], by omega, rfl, h5, ?_, by simp at hxl; simp; omega, Nat.le_trans (takeR_le _ _) hs', .inr ⟨0, rfl, rfl⟩⟩
        rw [← hx, h6]; rfl
    · have hge : i = wl.length := by
        have := of_decide_eq_false hge
        rw [List.length_map] at this
        have h2 : ¬ (i < wl.length) := fun h => this (Int.ofNat_lt.2 h)
        omega
      simp at hxl
      exact absurd (List.eq_nil_of_length_eq_zero (by omega)) hne
  · refine Tr.of_code (knownO nro) (n_body1 s' wl tip i ver xs _) (holds_bif (fun hlt => ?_) (fun hge => ?_))
    · have hlt : i < wl.length := by
        have := of_decide_eq_true hlt
        rw [List.length_map] at this
        exact Int.ofNat_lt.1 this
      obtain ⟨w, h1, h2, h3, h4, h5, h6⟩ := step i s' hlt he
      rw [h2, h3]
      have hT := h4
      simp only [inT, Bool.and_eq_true, decide_eq_true_eq] at hT
      obtain ⟨⟨t1, t2⟩, t3⟩ := hT
      have hwr := wrap_small i (by omega)
      rw [hwr]
      have hN : ((num (s'.extract 0 w.toNat).data.toList : Nat) : Int) = takeN s' w := by unfold takeN; rw [if_pos h4]
      have hR : s'.extract w.toNat (Int.toNat ((s'.size : Nat) : Int)) = takeR s' w := by unfold takeR; rw [if_pos h4]; rfl
      rw [hN, hR]
      have h0 : (0 : Int) ≤ Int.ofNat i := Int.natCast_nonneg i
      refine ⟨?_, ?_⟩
      · repeat' first
          | with_reducible exact trivial
          | with_reducible refine cdb_iff.2 ⟨?_, ?_⟩
          | refine cds_of ?_ ⟨h0, rfl⟩
        all_goals (refine decide_eq_true ?_; first | omega | (simp only [ByteArray.size_extract]; omega) | (simp only [List.length_map, List.length_cons, List.length_nil, and_true]; unfold maxLen at *; omega))
      · refine ⟨wl.length - (i + 1), by omega, i + 1, takeR s' w, xs ++ [takeN s' w], by omega, rfl, h5, ?_, by simp [hxl], Nat.le_trans (takeR_le _ _) hs', .inr ⟨ver + 1, ?_, rfl⟩⟩
        · rw [← hx, h6, List.append_assoc]; rfl
        · unfold A1; rw [List.map_append]; rfl
    · have hge : i = wl.length := by
        have := of_decide_eq_false hge
        rw [List.length_map] at this
        have h2 : ¬ (i < wl.length) := fun h => this (Int.ofNat_lt.2 h)
        omega
      refine ⟨trivial, ?_⟩
      show Trl _ _ ((flatten (bodyOf 59)).drop 4) _ _ _
      have hx' : xs = numsOf wl s := by rw [← hx, hge, List.drop_length]; simp [numsOf]
      subst hx'
      refine Tr.keepL [4, 5] (by kernel_rfl) (Trl.of_code (knownO nro) (ne_nil (by kernel_rfl)) (n_post (.lst 1 ((numsOf wl s).map gi) (.tp 0 ver)) [ver] _) ⟨trivial, .inr rfl, trivial, rfl⟩)
end Go.Proofs.YtlonpmcgejdkkaaGreatDoor.AE.Nm
namespace Go.Proofs.YtlonpmcgejdkkaaGreatDoor.AE.A25
set_option maxRecDepth 100000
open Go.RowKit Oc Nm
def okP (f : Nat → Int) : Prop := 0 ≤ f 0 ∧ f 0 ≤ 281474976710655 ∧ 0 ≤ f 1 ∧ f 1 ≤ 7 ∧ -1 ≤ f 2 ∧ f 2 ≤ 7 ∧ f 2 ≠ f 1 ∧ 1 ≤ f 3 ∧ f 3 ≤ 10 ∧ 0 ≤ f 4 ∧ f 4 ≤ 128 ∧ 0 ≤ f 5 ∧ f 5 ≤ 4294967295 ∧ 0 ≤ f 6 ∧ f 6 ≤ 7
instance (f : Nat → Int) : Decidable (okP f) := by unfold okP; infer_instance
def chk25 (f : Nat → Int) : Int := bif decide (okP f) then 0 else 1
theorem chk_no {f : Nat → Int} (h : ¬ okP f) : AV.v (.int .i64 1) = AV.v (.int .i64 (chk25 f)) := by
  unfold chk25; rw [decide_eq_false h]; rfl
theorem chk_yes {f : Nat → Int} (h : okP f) : AV.v (.int .i64 0) = AV.v (.int .i64 (chk25 f)) := by
  unfold chk25; rw [decide_eq_true h]; rfl
theorem fs_check (f : Nat → Int) : Fs Tryz.prog ro25 55 [req f] (hp [] []) fun r _ => r = .v (.int .i64 (chk25 f)) := by
  refine Fs.of_call knownA (t_check f _) ?_
  repeat' (refine holds_bif (fun h => ?_) (fun h => ?_))
  all_goals
    refine ⟨trivial, ?_⟩
    simp only [decide_eq_true_eq, decide_eq_false_iff_not, bne_iff_ne, bne_eq_false_iff_eq, ne_eq] at *
    first
      | exact chk_no (by unfold okP; omega)
      | exact chk_yes (by unfold okP; omega)
theorem fs_rcheck (f : Nat → Int) : Fs Tryz.prog ro25 63 [req f] (hp [] []) fun r _ => r = .v (.int .i64 (chk25 f)) := by
  refine Fs.of_call knownA (t_rcheck f _) ?_
  repeat' (refine holds_bif (fun h => ?_) (fun h => ?_))
  all_goals
    refine ⟨trivial, ?_⟩
    simp only [decide_eq_true_eq, decide_eq_false_iff_not, beq_iff_eq, beq_eq_false_iff_ne, ne_eq] at *
    first
      | exact chk_no (by unfold okP; omega)
      | exact chk_yes (by unfold okP; omega)
/-- Plain numbers. -/
def ints? : List Value → Option (List Int)
  | [] => some []
  | .int .i64 n :: l => match ints? l with
    | some r => some (n :: r)
    | none => none
  | _ => none
theorem ints_map : ∀ {l : List Value} {r : List Int}, ints? l = some r → l = r.map (Value.int .i64)
  | [], r, h => by cases h; rfl
  | x :: l, r, h => by
    unfold ints? at h
    split at h
    · rename_i heq; cases heq
    · rename_i heq
      cases heq
      split at h
      · rename_i q hq
        cases h
        rw [ints_map hq]; rfl
      · cases h
    · cases h
def six (l : List Int) : Nat → Int := fun n => l.getD n 0
def sixP (F : (Nat → Int) → Value) : List Value → Option (Value × Bool) := fun us => match us with
  | [.agg cs] => match ints? cs.toList with
    | some l => match decide (l.length = 7) with
      | true => some (F (six l), true)
      | false => none
    | none => none
  | _ => none
theorem req_of {cs : Array Value} {l : List Int} (h : ints? cs.toList = some l) (h6 : l.length = 7) : AV.v (.agg cs) = req (six l) := by
  have := ints_map h
  obtain ⟨c⟩ := cs
  have : c = l.map (Value.int .i64) := this
  subst this
  match l, h6 with
  | [a, b, c, d, e, f, g], _ => rfl
theorem six_of {g : FuncId} {F : (Nat → Int) → Value} (hg : ∀ f : Nat → Int, Fs Tryz.prog ro25 g [req f] (hp [] []) fun r _ => r = .v (F f)) : ∀ us c, sixP F us = some (c, true) → Fs Tryz.prog ro25 g (us.map .v) (hp [] []) fun r _ => r = .v c := by
  intro us c h
  unfold sixP at h
  split at h
  · split at h
    · rename_i l hl
      split at h
      · rename_i h6
        cases h
        have := req_of hl (of_decide_eq_true h6)
        rw [List.map_cons, List.map_nil, this]
        exact hg (six l)
      · cases h
    · cases h
  · cases h
def chkV (f : Nat → Int) : Value := .int .i64 (chk25 f)
def numsP : List AV → Option (AV × Bool) := fun ar => match ar with
  | [.v (.string s), .lst 1 xs _] => match vals? xs with
    | some us => match ints? us with
      | some wl => match wl.isEmpty with
        | false => some (.lst 1 ((numsOf wl s).map gi) .no, enough wl s && decide (s.size ≤ maxLen) && decide (wl.length ≤ 1000))
        | true => none
      | none => none
    | none => none
  | _ => none
theorem nums_ok : ∀ args H r H', data? numsP args H = some (r, H') → HSound1 Tryz.prog ro25 59 args H r H' := by
  refine data_ok (has_fn (by kernel_rfl)) fun args r h => ?_
  unfold numsP at h
  split at h
  · rename_i s xs tip
    split at h
    · rename_i us hu
      split at h
      · rename_i wl hl
        split at h
        · rename_i hne
          simp only [Option.some.injEq, Prod.mk.injEq, Bool.and_eq_true, decide_eq_true_eq] at h
          obtain ⟨rfl, ⟨h1, h2⟩, h3⟩ := h
          have e1 := vals_map hu
          have e2 := ints_map hl
          subst e2
          subst e1
          have e3 : (wl.map (Value.int .i64)).map AV.v = wl.map gi := by rw [List.map_map]; rfl
          rw [e3]
          exact (fs_nums s wl tip h2 h3 (ne_nil hne) h1).ro _
        · cases h
      · cases h
    · cases h
  · cases h
noncomputable def prB : FuncId → Option (List AV → AH → Ans) := fun g => match g with
  | 55 => some (pure? (sixP chkV))
  | 63 => some (pure? (sixP chkV))
  | 59 => some (data? numsP)
  | g => prA g
theorem knownB : Known ro25 prB := by
  intro g p h
  unfold prB at h
  split at h
  · cases h; exact pure_ok (six_of fs_check) (has_fn (by kernel_rfl))
  · cases h; exact pure_ok (six_of fs_rcheck) (has_fn (by kernel_rfl))
  · cases h; exact nums_ok
  · exact knownA _ p h
end Go.Proofs.YtlonpmcgejdkkaaGreatDoor.AE.A25
namespace Go.Proofs.YtlonpmcgejdkkaaGreatDoor.AE.A25
set_option maxRecDepth 100000
open Go.RowKit Oc Nm
theorem t_put (f : Nat → Int) (Φ : AV → Prop) : callK ro25 (fun _ => false) prB 10 137 [req f] (hp [] []) (fun r h => some (h.cd ∧ Φ r)) =
    (bif ((A25.chk25 (A25.six [(f (0 : Nat)), (f (1 : Nat)), (f (2 : Nat)), (f (3 : Nat)), (f (4 : Nat)), (f (5 : Nat)), (f (6 : Nat))])) != (0 : Int)) then (some (True ∧ (Φ (AV.v (Value.tuple #[(Value.string (ByteArray.mk (Array.mk (@List.nil UInt8)))), (Value.int IntKind.i64 (A25.chk25 (A25.six [(f (0 : Nat)), (f (1 : Nat)), (f (2 : Nat)), (f (3 : Nat)), (f (4 : Nat)), (f (5 : Nat)), (f (6 : Nat))])))]))))) else (some ((cdb (cdb (cdb (cdb (cdb (cdb True (decide ((ByteArray.size (putS (ByteArray.mk (Array.mk (@List.nil UInt8))) (f (0 : Nat)) (6 : Int))) ≤ (70368744177664 : Nat)))) (decide ((ByteArray.size (putS (putS (ByteArray.mk (Array.mk (@List.nil UInt8))) (f (0 : Nat)) (6 : Int)) (f (1 : Nat)) (1 : Int))) ≤ (70368744177664 : Nat)))) (decide ((ByteArray.size (putS (putS (putS (ByteArray.mk (Array.mk (@List.nil UInt8))) (f (0 : Nat)) (6 : Int)) (f (1 : Nat)) (1 : Int)) (IntKind.wrap IntKind.i64 ((f (2 : Nat)) + (1 : Int))) (1 : Int))) ≤ (70368744177664 : Nat)))) (decide ((ByteArray.size (putS (putS (putS (putS (ByteArray.mk (Array.mk (@List.nil UInt8))) (f (0 : Nat)) (6 : Int)) (f (1 : Nat)) (1 : Int)) (IntKind.wrap IntKind.i64 ((f (2 : Nat)) + (1 : Int))) (1 : Int)) (f (3 : Nat)) (1 : Int))) ≤ (70368744177664 : Nat)))) (decide ((ByteArray.size (putS (putS (putS (putS (putS (ByteArray.mk (Array.mk (@List.nil UInt8))) (f (0 : Nat)) (6 : Int)) (f (1 : Nat)) (1 : Int)) (IntKind.wrap IntKind.i64 ((f (2 : Nat)) + (1 : Int))) (1 : Int)) (f (3 : Nat)) (1 : Int)) (f (4 : Nat)) (1 : Int))) ≤ (70368744177664 : Nat)))) (decide ((ByteArray.size (putS (putS (putS (putS (putS (putS (ByteArray.mk (Array.mk (@List.nil UInt8))) (f (0 : Nat)) (6 : Int)) (f (1 : Nat)) (1 : Int)) (IntKind.wrap IntKind.i64 ((f (2 : Nat)) + (1 : Int))) (1 : Int)) (f (3 : Nat)) (1 : Int)) (f (4 : Nat)) (1 : Int)) (f (5 : Nat)) (4 : Int))) ≤ (70368744177664 : Nat)))) ∧ (Φ (AV.v (Value.tuple #[(Value.string (putS (putS (putS (putS (putS (putS (putS (ByteArray.mk (Array.mk (@List.nil UInt8))) (f (0 : Nat)) (6 : Int)) (f (1 : Nat)) (1 : Int)) (IntKind.wrap IntKind.i64 ((f (2 : Nat)) + (1 : Int))) (1 : Int)) (f (3 : Nat)) (1 : Int)) (f (4 : Nat)) (1 : Int)) (f (5 : Nat)) (4 : Int)) (f (6 : Nat)) (1 : Int))), (Value.int IntKind.i64 (0 : Int))])))))) := by kernel_rfl
theorem t_rput (f : Nat → Int) (Φ : AV → Prop) : callK ro25 (fun _ => false) prB 10 42 [req f] (hp [] []) (fun r h => some (h.cd ∧ Φ r)) =
    (bif ((A25.chk25 (A25.six [(f (0 : Nat)), (f (1 : Nat)), (f (2 : Nat)), (f (3 : Nat)), (f (4 : Nat)), (f (5 : Nat)), (f (6 : Nat))])) != (0 : Int)) then (some (True ∧ (Φ (AV.v (Value.tuple #[(Value.string (ByteArray.mk (Array.mk (@List.nil UInt8)))), (Value.int IntKind.i64 (1 : Int))]))))) else (some ((cdb (cdb (cdb (cdb (cdb (cdb (cdb (cdb (cdb (cdb (cdb (cdb (cdb (cdb True (decide ((f (0 : Nat)) ≤ (9223372036854775807 : Int)))) (decide (((0 : Nat) + (ByteArray.size (numStr (f (0 : Nat)) (6 : Int)))) ≤ (9223372036854775807 : Nat)))) (decide ((f (1 : Nat)) ≤ (9223372036854775807 : Int)))) (decide (((ByteArray.size ((ByteArray.mk (Array.mk (@List.nil UInt8))) ++ (numStr (f (0 : Nat)) (6 : Int)))) + (ByteArray.size (numStr (f (1 : Nat)) (1 : Int)))) ≤ (9223372036854775807 : Nat)))) (decide ((exInt (AV.v (Value.int IntKind.i64 (IntKind.wrap IntKind.i64 ((f (2 : Nat)) + (1 : Int)))))) ≤ (9223372036854775807 : Int)))) (decide (((ByteArray.size (((ByteArray.mk (Array.mk (@List.nil UInt8))) ++ (numStr (f (0 : Nat)) (6 : Int))) ++ (numStr (f (1 : Nat)) (1 : Int)))) + (ByteArray.size (numStr (exInt (AV.v (Value.int IntKind.i64 (IntKind.wrap IntKind.i64 ((f (2 : Nat)) + (1 : Int)))))) (1 : Int)))) ≤ (9223372036854775807 : Nat)))) (decide ((f (3 : Nat)) ≤ (9223372036854775807 : Int)))) (decide (((ByteArray.size ((((ByteArray.mk (Array.mk (@List.nil UInt8))) ++ (numStr (f (0 : Nat)) (6 : Int))) ++ (numStr (f (1 : Nat)) (1 : Int))) ++ (numStr (exInt (AV.v (Value.int IntKind.i64 (IntKind.wrap IntKind.i64 ((f (2 : Nat)) + (1 : Int)))))) (1 : Int)))) + (ByteArray.size (numStr (f (3 : Nat)) (1 : Int)))) ≤ (9223372036854775807 : Nat)))) (decide ((f (4 : Nat)) ≤ (9223372036854775807 : Int)))) (decide (((ByteArray.size (((((ByteArray.mk (Array.mk (@List.nil UInt8))) ++ (numStr (f (0 : Nat)) (6 : Int))) ++ (numStr (f (1 : Nat)) (1 : Int))) ++ (numStr (exInt (AV.v (Value.int IntKind.i64 (IntKind.wrap IntKind.i64 ((f (2 : Nat)) + (1 : Int)))))) (1 : Int))) ++ (numStr (f (3 : Nat)) (1 : Int)))) + (ByteArray.size (numStr (f (4 : Nat)) (1 : Int)))) ≤ (9223372036854775807 : Nat)))) (decide ((f (5 : Nat)) ≤ (9223372036854775807 : Int)))) (decide (((ByteArray.size ((((((ByteArray.mk (Array.mk (@List.nil UInt8))) ++ (numStr (f (0 : Nat)) (6 : Int))) ++ (numStr (f (1 : Nat)) (1 : Int))) ++ (numStr (exInt (AV.v (Value.int IntKind.i64 (IntKind.wrap IntKind.i64 ((f (2 : Nat)) + (1 : Int)))))) (1 : Int))) ++ (numStr (f (3 : Nat)) (1 : Int))) ++ (numStr (f (4 : Nat)) (1 : Int)))) + (ByteArray.size (numStr (f (5 : Nat)) (4 : Int)))) ≤ (9223372036854775807 : Nat)))) (decide ((f (6 : Nat)) ≤ (9223372036854775807 : Int)))) (decide (((ByteArray.size (((((((ByteArray.mk (Array.mk (@List.nil UInt8))) ++ (numStr (f (0 : Nat)) (6 : Int))) ++ (numStr (f (1 : Nat)) (1 : Int))) ++ (numStr (exInt (AV.v (Value.int IntKind.i64 (IntKind.wrap IntKind.i64 ((f (2 : Nat)) + (1 : Int)))))) (1 : Int))) ++ (numStr (f (3 : Nat)) (1 : Int))) ++ (numStr (f (4 : Nat)) (1 : Int))) ++ (numStr (f (5 : Nat)) (4 : Int)))) + (ByteArray.size (numStr (f (6 : Nat)) (1 : Int)))) ≤ (9223372036854775807 : Nat)))) ∧ (Φ (AV.v (Value.tuple #[(Value.string ((((((((ByteArray.mk (Array.mk (@List.nil UInt8))) ++ (numStr (f (0 : Nat)) (6 : Int))) ++ (numStr (f (1 : Nat)) (1 : Int))) ++ (numStr (exInt (AV.v (Value.int IntKind.i64 (IntKind.wrap IntKind.i64 ((f (2 : Nat)) + (1 : Int)))))) (1 : Int))) ++ (numStr (f (3 : Nat)) (1 : Int))) ++ (numStr (f (4 : Nat)) (1 : Int))) ++ (numStr (f (5 : Nat)) (4 : Int))) ++ (numStr (f (6 : Nat)) (1 : Int)))), (Value.int IntKind.i64 (0 : Int))])))))) := by kernel_rfl
theorem t_rget (s : ByteArray) (Φ : AV → Prop) : callK ro25 (fun _ => false) prB 10 37 [.v (.string s)] (hp [] []) (fun r h => some (h.cd ∧ Φ r)) =
    (bif (decide (((ByteArray.size s) : Int) < (15 : Int))) then (some (True ∧ (Φ (AV.v (Value.tuple #[(Value.agg #[(Value.int IntKind.i64 (0 : Int)), (Value.int IntKind.i64 (0 : Int)), (Value.int IntKind.i64 (0 : Int)), (Value.int IntKind.i64 (0 : Int)), (Value.int IntKind.i64 (0 : Int)), (Value.int IntKind.i64 (0 : Int)), (Value.int IntKind.i64 (0 : Int))]), (Value.int IntKind.i64 (3 : Int))]))))) else (bif (decide ((15 : Int) < ((ByteArray.size s) : Int))) then (some ((cdb True ((((true && (decide ((6 : Int) ≤ ((ByteArray.size s) : Int)))) && ((true && (decide ((1 : Int) ≤ ((ByteArray.size (Oc.takeR s (6 : Int))) : Int)))) && ((true && (decide ((1 : Int) ≤ ((ByteArray.size (Oc.takeR (Oc.takeR s (6 : Int)) (1 : Int))) : Int)))) && ((true && (decide ((1 : Int) ≤ ((ByteArray.size (Oc.takeR (Oc.takeR (Oc.takeR s (6 : Int)) (1 : Int)) (1 : Int))) : Int)))) && ((true && (decide ((1 : Int) ≤ ((ByteArray.size (Oc.takeR (Oc.takeR (Oc.takeR (Oc.takeR s (6 : Int)) (1 : Int)) (1 : Int)) (1 : Int))) : Int)))) && ((true && (decide ((4 : Int) ≤ ((ByteArray.size (Oc.takeR (Oc.takeR (Oc.takeR (Oc.takeR (Oc.takeR s (6 : Int)) (1 : Int)) (1 : Int)) (1 : Int)) (1 : Int))) : Int)))) && ((true && (decide ((1 : Int) ≤ ((ByteArray.size (Oc.takeR (Oc.takeR (Oc.takeR (Oc.takeR (Oc.takeR (Oc.takeR s (6 : Int)) (1 : Int)) (1 : Int)) (1 : Int)) (1 : Int)) (4 : Int))) : Int)))) && true))))))) && (decide ((ByteArray.size s) ≤ (9223372036854775807 : Nat)))) && true)) ∧ (Φ (AV.v (Value.tuple #[(Value.agg #[(Value.int IntKind.i64 (0 : Int)), (Value.int IntKind.i64 (0 : Int)), (Value.int IntKind.i64 (0 : Int)), (Value.int IntKind.i64 (0 : Int)), (Value.int IntKind.i64 (0 : Int)), (Value.int IntKind.i64 (0 : Int)), (Value.int IntKind.i64 (0 : Int))]), (Value.int IntKind.i64 (2 : Int))]))))) else (bif ((A25.chk25 (A25.six [(exInt (AV.v (Value.int IntKind.i64 (Oc.takeN s (6 : Int))))), (exInt (AV.v (Value.int IntKind.i64 (Oc.takeN (Oc.takeR s (6 : Int)) (1 : Int))))), (IntKind.wrap IntKind.i64 ((exInt (AV.v (Value.int IntKind.i64 (Oc.takeN (Oc.takeR (Oc.takeR s (6 : Int)) (1 : Int)) (1 : Int))))) - (1 : Int))), (exInt (AV.v (Value.int IntKind.i64 (Oc.takeN (Oc.takeR (Oc.takeR (Oc.takeR s (6 : Int)) (1 : Int)) (1 : Int)) (1 : Int))))), (exInt (AV.v (Value.int IntKind.i64 (Oc.takeN (Oc.takeR (Oc.takeR (Oc.takeR (Oc.takeR s (6 : Int)) (1 : Int)) (1 : Int)) (1 : Int)) (1 : Int))))), (exInt (AV.v (Value.int IntKind.i64 (Oc.takeN (Oc.takeR (Oc.takeR (Oc.takeR (Oc.takeR (Oc.takeR s (6 : Int)) (1 : Int)) (1 : Int)) (1 : Int)) (1 : Int)) (4 : Int))))), (exInt (AV.v (Value.int IntKind.i64 (Oc.takeN (Oc.takeR (Oc.takeR (Oc.takeR (Oc.takeR (Oc.takeR (Oc.takeR s (6 : Int)) (1 : Int)) (1 : Int)) (1 : Int)) (1 : Int)) (4 : Int)) (1 : Int)))))])) != (0 : Int)) then (some ((cdb True ((((true && (decide ((6 : Int) ≤ ((ByteArray.size s) : Int)))) && ((true && (decide ((1 : Int) ≤ ((ByteArray.size (Oc.takeR s (6 : Int))) : Int)))) && ((true && (decide ((1 : Int) ≤ ((ByteArray.size (Oc.takeR (Oc.takeR s (6 : Int)) (1 : Int))) : Int)))) && ((true && (decide ((1 : Int) ≤ ((ByteArray.size (Oc.takeR (Oc.takeR (Oc.takeR s (6 : Int)) (1 : Int)) (1 : Int))) : Int)))) && ((true && (decide ((1 : Int) ≤ ((ByteArray.size (Oc.takeR (Oc.takeR (Oc.takeR (Oc.takeR s (6 : Int)) (1 : Int)) (1 : Int)) (1 : Int))) : Int)))) && ((true && (decide ((4 : Int) ≤ ((ByteArray.size (Oc.takeR (Oc.takeR (Oc.takeR (Oc.takeR (Oc.takeR s (6 : Int)) (1 : Int)) (1 : Int)) (1 : Int)) (1 : Int))) : Int)))) && ((true && (decide ((1 : Int) ≤ ((ByteArray.size (Oc.takeR (Oc.takeR (Oc.takeR (Oc.takeR (Oc.takeR (Oc.takeR s (6 : Int)) (1 : Int)) (1 : Int)) (1 : Int)) (1 : Int)) (4 : Int))) : Int)))) && true))))))) && (decide ((ByteArray.size s) ≤ (9223372036854775807 : Nat)))) && true)) ∧ (Φ (AV.v (Value.tuple #[(Value.agg #[(Value.int IntKind.i64 (0 : Int)), (Value.int IntKind.i64 (0 : Int)), (Value.int IntKind.i64 (0 : Int)), (Value.int IntKind.i64 (0 : Int)), (Value.int IntKind.i64 (0 : Int)), (Value.int IntKind.i64 (0 : Int)), (Value.int IntKind.i64 (0 : Int))]), (Value.int IntKind.i64 (2 : Int))]))))) else (some ((cdb True ((((true && (decide ((6 : Int) ≤ ((ByteArray.size s) : Int)))) && ((true && (decide ((1 : Int) ≤ ((ByteArray.size (Oc.takeR s (6 : Int))) : Int)))) && ((true && (decide ((1 : Int) ≤ ((ByteArray.size (Oc.takeR (Oc.takeR s (6 : Int)) (1 : Int))) : Int)))) && ((true && (decide ((1 : Int) ≤ ((ByteArray.size (Oc.takeR (Oc.takeR (Oc.takeR s (6 : Int)) (1 : Int)) (1 : Int))) : Int)))) && ((true && (decide ((1 : Int) ≤ ((ByteArray.size (Oc.takeR (Oc.takeR (Oc.takeR (Oc.takeR s (6 : Int)) (1 : Int)) (1 : Int)) (1 : Int))) : Int)))) && ((true && (decide ((4 : Int) ≤ ((ByteArray.size (Oc.takeR (Oc.takeR (Oc.takeR (Oc.takeR (Oc.takeR s (6 : Int)) (1 : Int)) (1 : Int)) (1 : Int)) (1 : Int))) : Int)))) && ((true && (decide ((1 : Int) ≤ ((ByteArray.size (Oc.takeR (Oc.takeR (Oc.takeR (Oc.takeR (Oc.takeR (Oc.takeR s (6 : Int)) (1 : Int)) (1 : Int)) (1 : Int)) (1 : Int)) (4 : Int))) : Int)))) && true))))))) && (decide ((ByteArray.size s) ≤ (9223372036854775807 : Nat)))) && true)) ∧ (Φ (AV.v (Value.tuple #[(Value.agg #[(Value.int IntKind.i64 (exInt (AV.v (Value.int IntKind.i64 (Oc.takeN s (6 : Int)))))), (Value.int IntKind.i64 (exInt (AV.v (Value.int IntKind.i64 (Oc.takeN (Oc.takeR s (6 : Int)) (1 : Int)))))), (Value.int IntKind.i64 (IntKind.wrap IntKind.i64 ((exInt (AV.v (Value.int IntKind.i64 (Oc.takeN (Oc.takeR (Oc.takeR s (6 : Int)) (1 : Int)) (1 : Int))))) - (1 : Int)))), (Value.int IntKind.i64 (exInt (AV.v (Value.int IntKind.i64 (Oc.takeN (Oc.takeR (Oc.takeR (Oc.takeR s (6 : Int)) (1 : Int)) (1 : Int)) (1 : Int)))))), (Value.int IntKind.i64 (exInt (AV.v (Value.int IntKind.i64 (Oc.takeN (Oc.takeR (Oc.takeR (Oc.takeR (Oc.takeR s (6 : Int)) (1 : Int)) (1 : Int)) (1 : Int)) (1 : Int)))))), (Value.int IntKind.i64 (exInt (AV.v (Value.int IntKind.i64 (Oc.takeN (Oc.takeR (Oc.takeR (Oc.takeR (Oc.takeR (Oc.takeR s (6 : Int)) (1 : Int)) (1 : Int)) (1 : Int)) (1 : Int)) (4 : Int)))))), (Value.int IntKind.i64 (exInt (AV.v (Value.int IntKind.i64 (Oc.takeN (Oc.takeR (Oc.takeR (Oc.takeR (Oc.takeR (Oc.takeR (Oc.takeR s (6 : Int)) (1 : Int)) (1 : Int)) (1 : Int)) (1 : Int)) (4 : Int)) (1 : Int))))))]), (Value.int IntKind.i64 (0 : Int))])))))))) := by kernel_rfl
end Go.Proofs.YtlonpmcgejdkkaaGreatDoor.AE.A25
namespace Go.Proofs.YtlonpmcgejdkkaaGreatDoor.AE.A25
set_option maxRecDepth 100000
open Go.RowKit Oc Nm
/-! Takes. -/
theorem take_ok_of {r : ByteArray} {m : Int} (h : (takeE r m != 0) = false) (h1 : 1 ≤ m) (h2 : m ≤ 6) : m ≤ r.size ∧ ((takeR r m).size : Int) = r.size - m := by
  have h : takeE r m = 0 := by simpa using h
  unfold takeE at h
  rw [if_neg (by omega)] at h
  split at h
  · cases h
  · rename_i hlt
    have hin : inT r m = true := by simp only [inT, Bool.and_eq_true, decide_eq_true_eq]; omega
    refine ⟨by omega, ?_⟩
    rw [takeR, if_pos hin, ByteArray.size_extract]
    omega
theorem take_bad_of {r : ByteArray} {m : Int} (h : (takeE r m != 0) = true) (h1 : 1 ≤ m) (h2 : m ≤ 6) : takeE r m = 3 ∧ (r.size : Int) < m := by
  have h : takeE r m ≠ 0 := by simpa using h
  unfold takeE at h ⊢
  rw [if_neg (by omega)] at h ⊢
  split at h
  · rename_i hlt; rw [if_pos hlt]; exact ⟨rfl, hlt⟩
  · exact absurd rfl h
theorem takeR_size {r : ByteArray} {m : Int} (h1 : 1 ≤ m) (h2 : m ≤ 6) (h : m ≤ r.size) : ((takeR r m).size : Int) = r.size - m := by
  have hin : inT r m = true := by simp only [inT, Bool.and_eq_true, decide_eq_true_eq]; omega
  rw [takeR, if_pos hin, ByteArray.size_extract]
  omega
def w25 : List Int := [6, 1, 1, 1, 1, 4, 1]
def vals25 (s : ByteArray) : Nat → Int := six [(numsOf w25 s).getD 0 0, (numsOf w25 s).getD 1 0, IntKind.wrap .i64 ((numsOf w25 s).getD 2 0 - 1), (numsOf w25 s).getD 3 0, (numsOf w25 s).getD 4 0, (numsOf w25 s).getD 5 0, (numsOf w25 s).getD 6 0]
def getE (s : ByteArray) : Int := if s.size < 15 then 3 else if 15 < s.size ∨ chk25 (vals25 s) ≠ 0 then 2 else 0
def getN (s : ByteArray) : Nat → Int := if getE s = 0 then vals25 s else fun _ => 0
def reqV (f : Nat → Int) : Value := .agg #[.int .i64 (f 0), .int .i64 (f 1), .int .i64 (f 2), .int .i64 (f 3), .int .i64 (f 4), .int .i64 (f 5), .int .i64 (f 6)]
def getV (s : ByteArray) : Value := .tuple #[reqV (getN s), .int .i64 (getE s)]
theorem get_err {s : ByteArray} {e : Int} (h : getE s = e) (hne : e ≠ 0) : AV.v (.tuple #[reqV fun _ => 0, .int .i64 e]) = AV.v (getV s) := by
  unfold getV getN
  rw [h, if_neg hne]
theorem get_good {s : ByteArray} (h : getE s = 0) : AV.v (.tuple #[reqV (vals25 s), .int .i64 0]) = AV.v (getV s) := by
  unfold getV getN
  rw [h, if_pos rfl]
theorem e3 {s : ByteArray} (h : (s.size : Int) < 15) : getE s = 3 := by unfold getE; rw [if_pos (by omega)]
theorem e2 {s : ByteArray} (h : (15 : Int) ≤ s.size) (h2 : (15 : Int) < s.size ∨ chk25 (vals25 s) ≠ 0) : getE s = 2 := by
  unfold getE; rw [if_neg (by omega), if_pos (by rcases h2 with h2 | h2; exact .inl (by omega); exact .inr h2)]
theorem e0 {s : ByteArray} (h : (s.size : Int) = 15) (h2 : chk25 (vals25 s) = 0) : getE s = 0 := by
  unfold getE; rw [if_neg (by omega), if_neg (by rintro (h3 | h3); omega; exact h3 h2)]
theorem en25 {s : ByteArray} (h : (15 : Int) ≤ s.size) : enough w25 s = true := by
  have t := fun (r : ByteArray) (m : Int) (h1 : 1 ≤ m) (h2 : m ≤ 6) (h : m ≤ r.size) => (show inT r m = true by simp only [inT, Bool.and_eq_true, decide_eq_true_eq]; omega)
  obtain ⟨s1, q1⟩ : ∃ x, x = takeR s 6 := ⟨_, rfl⟩
  obtain ⟨s2, q2⟩ : ∃ x, x = takeR s1 1 := ⟨_, rfl⟩
  obtain ⟨s3, q3⟩ : ∃ x, x = takeR s2 1 := ⟨_, rfl⟩
  obtain ⟨s4, q4⟩ : ∃ x, x = takeR s3 1 := ⟨_, rfl⟩
  obtain ⟨s5, q5⟩ : ∃ x, x = takeR s4 1 := ⟨_, rfl⟩
  obtain ⟨s6, q6⟩ : ∃ x, x = takeR s5 4 := ⟨_, rfl⟩
  obtain ⟨s7, q7⟩ : ∃ x, x = takeR s6 1 := ⟨_, rfl⟩
  have a0 := @takeR_size s 6 (by decide) (by decide) (by omega)
  rw [← q1] at a0
  have a1 := @takeR_size s1 1 (by decide) (by decide) (by omega)
  rw [← q2] at a1
  have a2 := @takeR_size s2 1 (by decide) (by decide) (by omega)
  rw [← q3] at a2
  have a3 := @takeR_size s3 1 (by decide) (by decide) (by omega)
  rw [← q4] at a3
  have a4 := @takeR_size s4 1 (by decide) (by decide) (by omega)
  rw [← q5] at a4
  have a5 := @takeR_size s5 4 (by decide) (by decide) (by omega)
  rw [← q6] at a5
  have a6 := @takeR_size s6 1 (by decide) (by decide) (by omega)
  rw [← q7] at a6
  simp only [w25, enough, Bool.and_eq_true, and_true]
  rw [← q1, ← q2, ← q3, ← q4, ← q5, ← q6]
  refine ⟨t _ _ (by decide) (by decide) (by omega), t _ _ (by decide) (by decide) (by omega), t _ _ (by decide) (by decide) (by omega), t _ _ (by decide) (by decide) (by omega), t _ _ (by decide) (by decide) (by omega), t _ _ (by decide) (by decide) (by omega), t _ _ (by decide) (by decide) (by omega)⟩
theorem fs_rget (s : ByteArray) (hs : s.size ≤ maxLen) : Fs Tryz.prog ro25 37 [.v (.string s)] (hp [] []) fun r _ => r = .v (getV s) := by
  refine Fs.of_call knownB (t_rget s _) ?_
  have cd : (15 : Int) ≤ s.size → (enough w25 s && decide (s.size ≤ maxLen) && true) = true := fun h => by rw [en25 h, decide_eq_true hs]; rfl
  refine holds_bif (fun h => ?_) (fun h => ?_)
  · exact ⟨trivial, get_err (e3 (of_decide_eq_true h)) (by decide)⟩
  have h := of_decide_eq_false h
  have h14 : (15 : Int) ≤ s.size := by omega
  refine holds_bif (fun h2 => ?_) (fun h2 => ?_)
  · exact ⟨cdb_iff.2 ⟨trivial, cd h14⟩, get_err (e2 h14 (.inl (of_decide_eq_true h2))) (by decide)⟩
  have h2 := of_decide_eq_false h2
  refine holds_bif (fun h3 => ?_) (fun h3 => ?_)
  · have h3 : (chk25 (vals25 s) != 0) = true := Eq.trans (by kernel_rfl) h3
    exact ⟨cdb_iff.2 ⟨trivial, cd h14⟩, get_err (e2 h14 (.inr (by simpa using h3))) (by decide)⟩
  · have h3 : (chk25 (vals25 s) != 0) = false := Eq.trans (by kernel_rfl) h3
    refine ⟨cdb_iff.2 ⟨trivial, cd h14⟩, ?_⟩
    rw [← get_good (e0 (by omega) (by simpa using h3))]
    kernel_rfl
end Go.Proofs.YtlonpmcgejdkkaaGreatDoor.AE.A25
namespace Go.Proofs.YtlonpmcgejdkkaaGreatDoor.AE.A25
set_option maxRecDepth 100000
open Go.RowKit Oc Nm
/-! Bodies. -/
def bytes25 (f : Nat → Int) : List UInt8 := be 6 (f 0).toNat ++ be 1 (f 1).toNat ++ be 1 (f 2 + 1).toNat ++ be 1 (f 3).toNat ++ be 1 (f 4).toNat ++ be 4 (f 5).toNat ++ be 1 (f 6).toNat
def putR (f : Nat → Int) : ByteArray := if okP f then ⟨(bytes25 f).toArray⟩ else ⟨#[]⟩
def putV (f : Nat → Int) : Value := .tuple #[.string (putR f), .int .i64 (chk25 f)]
theorem fits_of {n m : Int} (h1 : 1 ≤ m) (h2 : m ≤ 6) (h3 : 0 ≤ n) (h4 : n < 256 ^ m.toNat) : fits n m = true := by
  simp only [fits, Bool.and_eq_true, decide_eq_true_eq]; exact ⟨⟨⟨h1, h2⟩, h3⟩, h4⟩
theorem putS_mk {l : List UInt8} {n m : Int} (h : fits n m = true) : putS ⟨l.toArray⟩ n m = ⟨(l ++ be m.toNat n.toNat).toArray⟩ := by
  unfold putS; rw [if_pos h]
theorem num_mk {n m : Int} (h : fits n m = true) : numStr n m = ⟨(be m.toNat n.toNat).toArray⟩ := by
  simp only [fits, Bool.and_eq_true, decide_eq_true_eq] at h
  unfold numStr; rw [if_neg (by omega)]
theorem mk_app (l t : List UInt8) : (⟨l.toArray⟩ : ByteArray) ++ ⟨t.toArray⟩ = ⟨(l ++ t).toArray⟩ := by
  apply ByteArray.ext; simp
theorem mk_size (l : List UInt8) : (⟨l.toArray⟩ : ByteArray).size = l.length := by simp [ByteArray.size]
theorem fits25 {f : Nat → Int} (h : okP f) : fits (f 0) 6 = true ∧ fits (f 1) 1 = true ∧ fits (f 2 + 1) 1 = true ∧ fits (f 3) 1 = true ∧ fits (f 4) 1 = true ∧ fits (f 5) 4 = true ∧ fits (f 6) 1 = true := by
  obtain ⟨a0, b0, a1, b1, a2, b2, _, a3, b3, a4, b4, a5, b5, a6, b6⟩ := h
  refine ⟨fits_of (by decide) (by decide) (by omega) ?_, fits_of (by decide) (by decide) (by omega) ?_, fits_of (by decide) (by decide) (by omega) ?_, fits_of (by decide) (by decide) (by omega) ?_, fits_of (by decide) (by decide) (by omega) ?_, fits_of (by decide) (by decide) (by omega) ?_, fits_of (by decide) (by decide) (by omega) ?_⟩
  all_goals (simp; omega)
theorem exInt_v (k : IntKind) (n : Int) : exInt (AV.v (.int k n)) = n := rfl
theorem wr1 {f : Nat → Int} (h : okP f) : IntKind.wrap .i64 (f 2 + 1) = f 2 + 1 := by
  obtain ⟨a0, b0, a1, b1, a2, b2, _⟩ := h
  rw [IntKind.wrap_i64]; omega
theorem put_bad {f : Nat → Int} (h : ¬ okP f) : AV.v (.tuple #[.string ⟨#[]⟩, .int .i64 1]) = AV.v (putV f) := by
  unfold putV putR chk25; rw [if_neg h, decide_eq_false h]; rfl
theorem put_good {f : Nat → Int} (h : okP f) : AV.v (.tuple #[.string ⟨(bytes25 f).toArray⟩, .int .i64 0]) = AV.v (putV f) := by
  unfold putV putR chk25; rw [if_pos h, decide_eq_true h]; rfl
theorem chk_ok {f : Nat → Int} (h : (chk25 f != 0) = false) : okP f := by
  unfold chk25 at h
  by_cases hok : okP f
  · exact hok
  · rw [decide_eq_false hok] at h; cases h
theorem chk_bad {f : Nat → Int} (h : (chk25 f != 0) = true) : ¬ okP f := fun hok => by
  unfold chk25 at h; rw [decide_eq_true hok] at h; cases h
theorem fs_put (f : Nat → Int) : Fs Tryz.prog ro25 137 [req f] (hp [] []) fun r _ => r = .v (putV f) := by
  refine Fs.of_call knownB (t_put f _) ?_
  refine holds_bif (fun h => ?_) (fun h => ?_)
  · have h : (chk25 f != 0) = true := Eq.trans (by kernel_rfl) h
    refine ⟨trivial, ?_⟩
    rw [← put_bad (chk_bad h)]
    have hc : chk25 f = 1 := by unfold chk25; rw [decide_eq_false (chk_bad h)]; rfl
    show AV.v (.tuple #[.string ⟨#[]⟩, .int .i64 (chk25 f)]) = _
    rw [hc]
  · have h : (chk25 f != 0) = false := Eq.trans (by kernel_rfl) h
    have hok := chk_ok h
    obtain ⟨g0, g1, g2, g3, g4, g5, g6⟩ := fits25 hok
    have e0 : (ByteArray.mk (Array.mk (@List.nil UInt8))) = ⟨([] : List UInt8).toArray⟩ := rfl
    rw [e0]
    simp only [exInt_v, wr1 hok, putS_mk g0, putS_mk g1, putS_mk g2, putS_mk g3, putS_mk g4, putS_mk g5, putS_mk g6, mk_size]
    refine ⟨?_, put_good hok⟩
    repeat' first
      | with_reducible exact trivial
      | with_reducible refine cdb_iff.2 ⟨?_, ?_⟩
    all_goals (refine decide_eq_true ?_; simp [be_length])
theorem fs_rput (f : Nat → Int) : Fs Tryz.prog ro25 42 [req f] (hp [] []) fun r _ => r = .v (putV f) := by
  refine Fs.of_call knownB (t_rput f _) ?_
  refine holds_bif (fun h => ?_) (fun h => ?_)
  · have h : (chk25 f != 0) = true := Eq.trans (by kernel_rfl) h
    exact ⟨trivial, put_bad (chk_bad h)⟩
  · have h : (chk25 f != 0) = false := Eq.trans (by kernel_rfl) h
    have hok := chk_ok h
    obtain ⟨g0, g1, g2, g3, g4, g5, g6⟩ := fits25 hok
    have e0 : (ByteArray.mk (Array.mk (@List.nil UInt8))) = ⟨([] : List UInt8).toArray⟩ := rfl
    rw [e0]
    simp only [exInt_v, wr1 hok, num_mk g0, num_mk g1, num_mk g2, num_mk g3, num_mk g4, num_mk g5, num_mk g6, mk_app, mk_size, List.nil_append, show (6 : Int).toNat = 6 from rfl, show (1 : Int).toNat = 1 from rfl, show (4 : Int).toNat = 4 from rfl]
    refine ⟨?_, by have hg := put_good hok; unfold bytes25 at hg; exact hg⟩
    obtain ⟨a0, b0, a1, b1, a2, b2, _, a3, b3, a4, b4, a5, b5, a6, b6⟩ := hok
    repeat' first
      | with_reducible exact trivial
      | with_reducible refine cdb_iff.2 ⟨?_, ?_⟩
    all_goals (refine decide_eq_true ?_; first | omega | simp [be_length])
end Go.Proofs.YtlonpmcgejdkkaaGreatDoor.AE.A25
namespace Go.Proofs.YtlonpmcgejdkkaaGreatDoor.AE.A25
set_option maxRecDepth 100000
open Go.RowKit Oc Nm
def gZ : List AV := List.replicate 7 (.v (.int .i64 0))
def gH : AH := hp [(25, gZ), (32, [.v (.int .i64 0)])] []
def gA (s : ByteArray) : List AV := [.v (.string s), .dead, .ptr 0 0, .ptr 1 0, .dead, .fn (.func 53) [] [.ptr 0 0, .ptr 1 0]] ++ List.replicate 14 .dead
theorem g_x (s : ByteArray) (R : Exit → List AV → AH → Prop) : code ro25 (fun _ => false) prB 8 (sub (bodyOf 33) [0]) ([.v (.string s)] ++ List.replicate 19 (.v undef)) (hp [] []) (kp [0, 2, 3] R) =
    (some (True ∧ (R Exit.normal [(AV.v (Value.string s)), AV.dead, (AV.ptr (0 : Nat) (0 : Nat)), (AV.ptr (1 : Nat) (0 : Nat)), AV.dead, AV.dead, AV.dead, AV.dead, AV.dead, AV.dead, AV.dead, AV.dead, AV.dead, AV.dead, AV.dead, AV.dead, AV.dead, AV.dead, AV.dead, AV.dead] (AH.mk [((25 : Nat), [(AV.v (Value.int IntKind.i64 (0 : Int))), (AV.v (Value.int IntKind.i64 (0 : Int))), (AV.v (Value.int IntKind.i64 (0 : Int))), (AV.v (Value.int IntKind.i64 (0 : Int))), (AV.v (Value.int IntKind.i64 (0 : Int))), (AV.v (Value.int IntKind.i64 (0 : Int))), (AV.v (Value.int IntKind.i64 (0 : Int)))]), ((32 : Nat), [(AV.v (Value.int IntKind.i64 (0 : Int)))])] (@List.nil Nat) (0 : Nat) (0 : Nat) true (@List.nil (Prod Nat Bool)) True)))) := by kernel_rfl
theorem g_y (s : ByteArray) (R : Exit → List AV → AH → Prop) : code ro25 (fun _ => false) prB 10 (sub (bodyOf 33) [1, 1]) (gA s) gH (kp [2, 3] R) =
    (bif ((Oc.takeE s (6 : Int)) != (0 : Int)) then (some ((cdb True (decide ((ByteArray.size s) ≤ (9223372036854775807 : Nat)))) ∧ (R (Exit.panic [(Go.PanicEntry.mk (Value.iface (32 : Nat) (Value.int IntKind.i64 (Oc.takeE s (6 : Int)))) false false)]) [AV.dead, AV.dead, (AV.ptr (0 : Nat) (0 : Nat)), (AV.ptr (1 : Nat) (0 : Nat)), AV.dead, AV.dead, AV.dead, AV.dead, AV.dead, AV.dead, AV.dead, AV.dead, AV.dead, AV.dead, AV.dead, AV.dead, AV.dead, AV.dead, AV.dead, AV.dead] (AH.mk [((25 : Nat), [(AV.v (Value.int IntKind.i64 (0 : Int))), (AV.v (Value.int IntKind.i64 (0 : Int))), (AV.v (Value.int IntKind.i64 (0 : Int))), (AV.v (Value.int IntKind.i64 (0 : Int))), (AV.v (Value.int IntKind.i64 (0 : Int))), (AV.v (Value.int IntKind.i64 (0 : Int))), (AV.v (Value.int IntKind.i64 (0 : Int)))]), ((32 : Nat), [(AV.v (Value.int IntKind.i64 (0 : Int)))]), ((116 : Nat), [(AV.v (Value.string (Oc.takeR s (6 : Int))))]), ((25 : Nat), [(AV.v (Value.int IntKind.i64 (0 : Int))), (AV.v (Value.int IntKind.i64 (0 : Int))), (AV.v (Value.int IntKind.i64 (0 : Int))), (AV.v (Value.int IntKind.i64 (0 : Int))), (AV.v (Value.int IntKind.i64 (0 : Int))), (AV.v (Value.int IntKind.i64 (0 : Int))), (AV.v (Value.int IntKind.i64 (0 : Int)))]), ((120 : Nat), [(AV.v (Value.int IntKind.i64 (0 : Int))), (AV.v (Value.int IntKind.i64 (0 : Int))), (AV.v (Value.int IntKind.i64 (0 : Int))), (AV.v (Value.int IntKind.i64 (0 : Int))), (AV.v (Value.int IntKind.i64 (0 : Int))), (AV.v (Value.int IntKind.i64 (0 : Int))), (AV.v (Value.int IntKind.i64 (0 : Int)))])] (@List.nil Nat) (0 : Nat) (0 : Nat) true (@List.nil (Prod Nat Bool)) True)))) else (bif ((Oc.takeE (Oc.takeR s (6 : Int)) (1 : Int)) != (0 : Int)) then (some ((cdb (cdb True (decide ((ByteArray.size s) ≤ (9223372036854775807 : Nat)))) (decide ((ByteArray.size (Oc.takeR s (6 : Int))) ≤ (9223372036854775807 : Nat)))) ∧ (R (Exit.panic [(Go.PanicEntry.mk (Value.iface (32 : Nat) (Value.int IntKind.i64 (Oc.takeE (Oc.takeR s (6 : Int)) (1 : Int)))) false false)]) [AV.dead, AV.dead, (AV.ptr (0 : Nat) (0 : Nat)), (AV.ptr (1 : Nat) (0 : Nat)), AV.dead, AV.dead, AV.dead, AV.dead, AV.dead, AV.dead, AV.dead, AV.dead, AV.dead, AV.dead, AV.dead, AV.dead, AV.dead, AV.dead, AV.dead, AV.dead] (AH.mk [((25 : Nat), [(AV.v (Value.int IntKind.i64 (0 : Int))), (AV.v (Value.int IntKind.i64 (0 : Int))), (AV.v (Value.int IntKind.i64 (0 : Int))), (AV.v (Value.int IntKind.i64 (0 : Int))), (AV.v (Value.int IntKind.i64 (0 : Int))), (AV.v (Value.int IntKind.i64 (0 : Int))), (AV.v (Value.int IntKind.i64 (0 : Int)))]), ((32 : Nat), [(AV.v (Value.int IntKind.i64 (0 : Int)))]), ((116 : Nat), [(AV.v (Value.string (Oc.takeR (Oc.takeR s (6 : Int)) (1 : Int))))]), ((25 : Nat), [(AV.v (Value.int IntKind.i64 (0 : Int))), (AV.v (Value.int IntKind.i64 (0 : Int))), (AV.v (Value.int IntKind.i64 (0 : Int))), (AV.v (Value.int IntKind.i64 (0 : Int))), (AV.v (Value.int IntKind.i64 (0 : Int))), (AV.v (Value.int IntKind.i64 (0 : Int))), (AV.v (Value.int IntKind.i64 (0 : Int)))]), ((120 : Nat), [(AV.v (Value.int IntKind.i64 (Oc.takeN s (6 : Int)))), (AV.v (Value.int IntKind.i64 (0 : Int))), (AV.v (Value.int IntKind.i64 (0 : Int))), (AV.v (Value.int IntKind.i64 (0 : Int))), (AV.v (Value.int IntKind.i64 (0 : Int))), (AV.v (Value.int IntKind.i64 (0 : Int))), (AV.v (Value.int IntKind.i64 (0 : Int)))])] (@List.nil Nat) (0 : Nat) (0 : Nat) true (@List.nil (Prod Nat Bool)) True)))) else (bif ((Oc.takeE (Oc.takeR (Oc.takeR s (6 : Int)) (1 : Int)) (1 : Int)) != (0 : Int)) then (some ((cdb (cdb (cdb True (decide ((ByteArray.size s) ≤ (9223372036854775807 : Nat)))) (decide ((ByteArray.size (Oc.takeR s (6 : Int))) ≤ (9223372036854775807 : Nat)))) (decide ((ByteArray.size (Oc.takeR (Oc.takeR s (6 : Int)) (1 : Int))) ≤ (9223372036854775807 : Nat)))) ∧ (R (Exit.panic [(Go.PanicEntry.mk (Value.iface (32 : Nat) (Value.int IntKind.i64 (Oc.takeE (Oc.takeR (Oc.takeR s (6 : Int)) (1 : Int)) (1 : Int)))) false false)]) [AV.dead, AV.dead, (AV.ptr (0 : Nat) (0 : Nat)), (AV.ptr (1 : Nat) (0 : Nat)), AV.dead, AV.dead, AV.dead, AV.dead, AV.dead, AV.dead, AV.dead, AV.dead, AV.dead, AV.dead, AV.dead, AV.dead, AV.dead, AV.dead, AV.dead, AV.dead] (AH.mk [((25 : Nat), [(AV.v (Value.int IntKind.i64 (0 : Int))), (AV.v (Value.int IntKind.i64 (0 : Int))), (AV.v (Value.int IntKind.i64 (0 : Int))), (AV.v (Value.int IntKind.i64 (0 : Int))), (AV.v (Value.int IntKind.i64 (0 : Int))), (AV.v (Value.int IntKind.i64 (0 : Int))), (AV.v (Value.int IntKind.i64 (0 : Int)))]), ((32 : Nat), [(AV.v (Value.int IntKind.i64 (0 : Int)))]), ((116 : Nat), [(AV.v (Value.string (Oc.takeR (Oc.takeR (Oc.takeR s (6 : Int)) (1 : Int)) (1 : Int))))]), ((25 : Nat), [(AV.v (Value.int IntKind.i64 (0 : Int))), (AV.v (Value.int IntKind.i64 (0 : Int))), (AV.v (Value.int IntKind.i64 (0 : Int))), (AV.v (Value.int IntKind.i64 (0 : Int))), (AV.v (Value.int IntKind.i64 (0 : Int))), (AV.v (Value.int IntKind.i64 (0 : Int))), (AV.v (Value.int IntKind.i64 (0 : Int)))]), ((120 : Nat), [(AV.v (Value.int IntKind.i64 (Oc.takeN s (6 : Int)))), (AV.v (Value.int IntKind.i64 (Oc.takeN (Oc.takeR s (6 : Int)) (1 : Int)))), (AV.v (Value.int IntKind.i64 (0 : Int))), (AV.v (Value.int IntKind.i64 (0 : Int))), (AV.v (Value.int IntKind.i64 (0 : Int))), (AV.v (Value.int IntKind.i64 (0 : Int))), (AV.v (Value.int IntKind.i64 (0 : Int)))])] (@List.nil Nat) (0 : Nat) (0 : Nat) true (@List.nil (Prod Nat Bool)) True)))) else (bif ((Oc.takeE (Oc.takeR (Oc.takeR (Oc.takeR s (6 : Int)) (1 : Int)) (1 : Int)) (1 : Int)) != (0 : Int)) then (some ((cdb (cdb (cdb (cdb True (decide ((ByteArray.size s) ≤ (9223372036854775807 : Nat)))) (decide ((ByteArray.size (Oc.takeR s (6 : Int))) ≤ (9223372036854775807 : Nat)))) (decide ((ByteArray.size (Oc.takeR (Oc.takeR s (6 : Int)) (1 : Int))) ≤ (9223372036854775807 : Nat)))) (decide ((ByteArray.size (Oc.takeR (Oc.takeR (Oc.takeR s (6 : Int)) (1 : Int)) (1 : Int))) ≤ (9223372036854775807 : Nat)))) ∧ (R (Exit.panic [(Go.PanicEntry.mk (Value.iface (32 : Nat) (Value.int IntKind.i64 (Oc.takeE (Oc.takeR (Oc.takeR (Oc.takeR s (6 : Int)) (1 : Int)) (1 : Int)) (1 : Int)))) false false)]) [AV.dead, AV.dead, (AV.ptr (0 : Nat) (0 : Nat)), (AV.ptr (1 : Nat) (0 : Nat)), AV.dead, AV.dead, AV.dead, AV.dead, AV.dead, AV.dead, AV.dead, AV.dead, AV.dead, AV.dead, AV.dead, AV.dead, AV.dead, AV.dead, AV.dead, AV.dead] (AH.mk [((25 : Nat), [(AV.v (Value.int IntKind.i64 (0 : Int))), (AV.v (Value.int IntKind.i64 (0 : Int))), (AV.v (Value.int IntKind.i64 (0 : Int))), (AV.v (Value.int IntKind.i64 (0 : Int))), (AV.v (Value.int IntKind.i64 (0 : Int))), (AV.v (Value.int IntKind.i64 (0 : Int))), (AV.v (Value.int IntKind.i64 (0 : Int)))]), ((32 : Nat), [(AV.v (Value.int IntKind.i64 (0 : Int)))]), ((116 : Nat), [(AV.v (Value.string (Oc.takeR (Oc.takeR (Oc.takeR (Oc.takeR s (6 : Int)) (1 : Int)) (1 : Int)) (1 : Int))))]), ((25 : Nat), [(AV.v (Value.int IntKind.i64 (0 : Int))), (AV.v (Value.int IntKind.i64 (0 : Int))), (AV.v (Value.int IntKind.i64 (0 : Int))), (AV.v (Value.int IntKind.i64 (0 : Int))), (AV.v (Value.int IntKind.i64 (0 : Int))), (AV.v (Value.int IntKind.i64 (0 : Int))), (AV.v (Value.int IntKind.i64 (0 : Int)))]), ((120 : Nat), [(AV.v (Value.int IntKind.i64 (Oc.takeN s (6 : Int)))), (AV.v (Value.int IntKind.i64 (Oc.takeN (Oc.takeR s (6 : Int)) (1 : Int)))), (AV.v (Value.int IntKind.i64 (Oc.takeN (Oc.takeR (Oc.takeR s (6 : Int)) (1 : Int)) (1 : Int)))), (AV.v (Value.int IntKind.i64 (0 : Int))), (AV.v (Value.int IntKind.i64 (0 : Int))), (AV.v (Value.int IntKind.i64 (0 : Int))), (AV.v (Value.int IntKind.i64 (0 : Int)))])] (@List.nil Nat) (0 : Nat) (0 : Nat) true (@List.nil (Prod Nat Bool)) True)))) else (bif ((Oc.takeE (Oc.takeR (Oc.takeR (Oc.takeR (Oc.takeR s (6 : Int)) (1 : Int)) (1 : Int)) (1 : Int)) (1 : Int)) != (0 : Int)) then (some ((cdb (cdb (cdb (cdb (cdb True (decide ((ByteArray.size s) ≤ (9223372036854775807 : Nat)))) (decide ((ByteArray.size (Oc.takeR s (6 : Int))) ≤ (9223372036854775807 : Nat)))) (decide ((ByteArray.size (Oc.takeR (Oc.takeR s (6 : Int)) (1 : Int))) ≤ (9223372036854775807 : Nat)))) (decide ((ByteArray.size (Oc.takeR (Oc.takeR (Oc.takeR s (6 : Int)) (1 : Int)) (1 : Int))) ≤ (9223372036854775807 : Nat)))) (decide ((ByteArray.size (Oc.takeR (Oc.takeR (Oc.takeR (Oc.takeR s (6 : Int)) (1 : Int)) (1 : Int)) (1 : Int))) ≤ (9223372036854775807 : Nat)))) ∧ (R (Exit.panic [(Go.PanicEntry.mk (Value.iface (32 : Nat) (Value.int IntKind.i64 (Oc.takeE (Oc.takeR (Oc.takeR (Oc.takeR (Oc.takeR s (6 : Int)) (1 : Int)) (1 : Int)) (1 : Int)) (1 : Int)))) false false)]) [AV.dead, AV.dead, (AV.ptr (0 : Nat) (0 : Nat)), (AV.ptr (1 : Nat) (0 : Nat)), AV.dead, AV.dead, AV.dead, AV.dead, AV.dead, AV.dead, AV.dead, AV.dead, AV.dead, AV.dead, AV.dead, AV.dead, AV.dead, AV.dead, AV.dead, AV.dead] (AH.mk [((25 : Nat), [(AV.v (Value.int IntKind.i64 (0 : Int))), (AV.v (Value.int IntKind.i64 (0 : Int))), (AV.v (Value.int IntKind.i64 (0 : Int))), (AV.v (Value.int IntKind.i64 (0 : Int))), (AV.v (Value.int IntKind.i64 (0 : Int))), (AV.v (Value.int IntKind.i64 (0 : Int))), (AV.v (Value.int IntKind.i64 (0 : Int)))]), ((32 : Nat), [(AV.v (Value.int IntKind.i64 (0 : Int)))]), ((116 : Nat), [(AV.v (Value.string (Oc.takeR (Oc.takeR (Oc.takeR (Oc.takeR (Oc.takeR s (6 : Int)) (1 : Int)) (1 : Int)) (1 : Int)) (1 : Int))))]), ((25 : Nat), [(AV.v (Value.int IntKind.i64 (0 : Int))), (AV.v (Value.int IntKind.i64 (0 : Int))), (AV.v (Value.int IntKind.i64 (0 : Int))), (AV.v (Value.int IntKind.i64 (0 : Int))), (AV.v (Value.int IntKind.i64 (0 : Int))), (AV.v (Value.int IntKind.i64 (0 : Int))), (AV.v (Value.int IntKind.i64 (0 : Int)))]), ((120 : Nat), [(AV.v (Value.int IntKind.i64 (Oc.takeN s (6 : Int)))), (AV.v (Value.int IntKind.i64 (Oc.takeN (Oc.takeR s (6 : Int)) (1 : Int)))), (AV.v (Value.int IntKind.i64 (Oc.takeN (Oc.takeR (Oc.takeR s (6 : Int)) (1 : Int)) (1 : Int)))), (AV.v (Value.int IntKind.i64 (Oc.takeN (Oc.takeR (Oc.takeR (Oc.takeR s (6 : Int)) (1 : Int)) (1 : Int)) (1 : Int)))), (AV.v (Value.int IntKind.i64 (0 : Int))), (AV.v (Value.int IntKind.i64 (0 : Int))), (AV.v (Value.int IntKind.i64 (0 : Int)))])] (@List.nil Nat) (0 : Nat) (0 : Nat) true (@List.nil (Prod Nat Bool)) True)))) else (bif ((Oc.takeE (Oc.takeR (Oc.takeR (Oc.takeR (Oc.takeR (Oc.takeR s (6 : Int)) (1 : Int)) (1 : Int)) (1 : Int)) (1 : Int)) (4 : Int)) != (0 : Int)) then (some ((cdb (cdb (cdb (cdb (cdb (cdb True (decide ((ByteArray.size s) ≤ (9223372036854775807 : Nat)))) (decide ((ByteArray.size (Oc.takeR s (6 : Int))) ≤ (9223372036854775807 : Nat)))) (decide ((ByteArray.size (Oc.takeR (Oc.takeR s (6 : Int)) (1 : Int))) ≤ (9223372036854775807 : Nat)))) (decide ((ByteArray.size (Oc.takeR (Oc.takeR (Oc.takeR s (6 : Int)) (1 : Int)) (1 : Int))) ≤ (9223372036854775807 : Nat)))) (decide ((ByteArray.size (Oc.takeR (Oc.takeR (Oc.takeR (Oc.takeR s (6 : Int)) (1 : Int)) (1 : Int)) (1 : Int))) ≤ (9223372036854775807 : Nat)))) (decide ((ByteArray.size (Oc.takeR (Oc.takeR (Oc.takeR (Oc.takeR (Oc.takeR s (6 : Int)) (1 : Int)) (1 : Int)) (1 : Int)) (1 : Int))) ≤ (9223372036854775807 : Nat)))) ∧ (R (Exit.panic [(Go.PanicEntry.mk (Value.iface (32 : Nat) (Value.int IntKind.i64 (Oc.takeE (Oc.takeR (Oc.takeR (Oc.takeR (Oc.takeR (Oc.takeR s (6 : Int)) (1 : Int)) (1 : Int)) (1 : Int)) (1 : Int)) (4 : Int)))) false false)]) [AV.dead, AV.dead, (AV.ptr (0 : Nat) (0 : Nat)), (AV.ptr (1 : Nat) (0 : Nat)), AV.dead, AV.dead, AV.dead, AV.dead, AV.dead, AV.dead, AV.dead, AV.dead, AV.dead, AV.dead, AV.dead, AV.dead, AV.dead, AV.dead, AV.dead, AV.dead] (AH.mk [((25 : Nat), [(AV.v (Value.int IntKind.i64 (0 : Int))), (AV.v (Value.int IntKind.i64 (0 : Int))), (AV.v (Value.int IntKind.i64 (0 : Int))), (AV.v (Value.int IntKind.i64 (0 : Int))), (AV.v (Value.int IntKind.i64 (0 : Int))), (AV.v (Value.int IntKind.i64 (0 : Int))), (AV.v (Value.int IntKind.i64 (0 : Int)))]), ((32 : Nat), [(AV.v (Value.int IntKind.i64 (0 : Int)))]), ((116 : Nat), [(AV.v (Value.string (Oc.takeR (Oc.takeR (Oc.takeR (Oc.takeR (Oc.takeR (Oc.takeR s (6 : Int)) (1 : Int)) (1 : Int)) (1 : Int)) (1 : Int)) (4 : Int))))]), ((25 : Nat), [(AV.v (Value.int IntKind.i64 (0 : Int))), (AV.v (Value.int IntKind.i64 (0 : Int))), (AV.v (Value.int IntKind.i64 (0 : Int))), (AV.v (Value.int IntKind.i64 (0 : Int))), (AV.v (Value.int IntKind.i64 (0 : Int))), (AV.v (Value.int IntKind.i64 (0 : Int))), (AV.v (Value.int IntKind.i64 (0 : Int)))]), ((120 : Nat), [(AV.v (Value.int IntKind.i64 (Oc.takeN s (6 : Int)))), (AV.v (Value.int IntKind.i64 (Oc.takeN (Oc.takeR s (6 : Int)) (1 : Int)))), (AV.v (Value.int IntKind.i64 (Oc.takeN (Oc.takeR (Oc.takeR s (6 : Int)) (1 : Int)) (1 : Int)))), (AV.v (Value.int IntKind.i64 (Oc.takeN (Oc.takeR (Oc.takeR (Oc.takeR s (6 : Int)) (1 : Int)) (1 : Int)) (1 : Int)))), (AV.v (Value.int IntKind.i64 (Oc.takeN (Oc.takeR (Oc.takeR (Oc.takeR (Oc.takeR s (6 : Int)) (1 : Int)) (1 : Int)) (1 : Int)) (1 : Int)))), (AV.v (Value.int IntKind.i64 (0 : Int))), (AV.v (Value.int IntKind.i64 (0 : Int)))])] (@List.nil Nat) (0 : Nat) (0 : Nat) true (@List.nil (Prod Nat Bool)) True)))) else (bif ((Oc.takeE (Oc.takeR (Oc.takeR (Oc.takeR (Oc.takeR (Oc.takeR (Oc.takeR s (6 : Int)) (1 : Int)) (1 : Int)) (1 : Int)) (1 : Int)) (4 : Int)) (1 : Int)) != (0 : Int)) then (some ((cdb (cdb (cdb (cdb (cdb (cdb (cdb True (decide ((ByteArray.size s) ≤ (9223372036854775807 : Nat)))) (decide ((ByteArray.size (Oc.takeR s (6 : Int))) ≤ (9223372036854775807 : Nat)))) (decide ((ByteArray.size (Oc.takeR (Oc.takeR s (6 : Int)) (1 : Int))) ≤ (9223372036854775807 : Nat)))) (decide ((ByteArray.size (Oc.takeR (Oc.takeR (Oc.takeR s (6 : Int)) (1 : Int)) (1 : Int))) ≤ (9223372036854775807 : Nat)))) (decide ((ByteArray.size (Oc.takeR (Oc.takeR (Oc.takeR (Oc.takeR s (6 : Int)) (1 : Int)) (1 : Int)) (1 : Int))) ≤ (9223372036854775807 : Nat)))) (decide ((ByteArray.size (Oc.takeR (Oc.takeR (Oc.takeR (Oc.takeR (Oc.takeR s (6 : Int)) (1 : Int)) (1 : Int)) (1 : Int)) (1 : Int))) ≤ (9223372036854775807 : Nat)))) (decide ((ByteArray.size (Oc.takeR (Oc.takeR (Oc.takeR (Oc.takeR (Oc.takeR (Oc.takeR s (6 : Int)) (1 : Int)) (1 : Int)) (1 : Int)) (1 : Int)) (4 : Int))) ≤ (9223372036854775807 : Nat)))) ∧ (R (Exit.panic [(Go.PanicEntry.mk (Value.iface (32 : Nat) (Value.int IntKind.i64 (Oc.takeE (Oc.takeR (Oc.takeR (Oc.takeR (Oc.takeR (Oc.takeR (Oc.takeR s (6 : Int)) (1 : Int)) (1 : Int)) (1 : Int)) (1 : Int)) (4 : Int)) (1 : Int)))) false false)]) [AV.dead, AV.dead, (AV.ptr (0 : Nat) (0 : Nat)), (AV.ptr (1 : Nat) (0 : Nat)), AV.dead, AV.dead, AV.dead, AV.dead, AV.dead, AV.dead, AV.dead, AV.dead, AV.dead, AV.dead, AV.dead, AV.dead, AV.dead, AV.dead, AV.dead, AV.dead] (AH.mk [((25 : Nat), [(AV.v (Value.int IntKind.i64 (0 : Int))), (AV.v (Value.int IntKind.i64 (0 : Int))), (AV.v (Value.int IntKind.i64 (0 : Int))), (AV.v (Value.int IntKind.i64 (0 : Int))), (AV.v (Value.int IntKind.i64 (0 : Int))), (AV.v (Value.int IntKind.i64 (0 : Int))), (AV.v (Value.int IntKind.i64 (0 : Int)))]), ((32 : Nat), [(AV.v (Value.int IntKind.i64 (0 : Int)))]), ((116 : Nat), [(AV.v (Value.string (Oc.takeR (Oc.takeR (Oc.takeR (Oc.takeR (Oc.takeR (Oc.takeR (Oc.takeR s (6 : Int)) (1 : Int)) (1 : Int)) (1 : Int)) (1 : Int)) (4 : Int)) (1 : Int))))]), ((25 : Nat), [(AV.v (Value.int IntKind.i64 (0 : Int))), (AV.v (Value.int IntKind.i64 (0 : Int))), (AV.v (Value.int IntKind.i64 (0 : Int))), (AV.v (Value.int IntKind.i64 (0 : Int))), (AV.v (Value.int IntKind.i64 (0 : Int))), (AV.v (Value.int IntKind.i64 (0 : Int))), (AV.v (Value.int IntKind.i64 (0 : Int)))]), ((120 : Nat), [(AV.v (Value.int IntKind.i64 (Oc.takeN s (6 : Int)))), (AV.v (Value.int IntKind.i64 (Oc.takeN (Oc.takeR s (6 : Int)) (1 : Int)))), (AV.v (Value.int IntKind.i64 (Oc.takeN (Oc.takeR (Oc.takeR s (6 : Int)) (1 : Int)) (1 : Int)))), (AV.v (Value.int IntKind.i64 (Oc.takeN (Oc.takeR (Oc.takeR (Oc.takeR s (6 : Int)) (1 : Int)) (1 : Int)) (1 : Int)))), (AV.v (Value.int IntKind.i64 (Oc.takeN (Oc.takeR (Oc.takeR (Oc.takeR (Oc.takeR s (6 : Int)) (1 : Int)) (1 : Int)) (1 : Int)) (1 : Int)))), (AV.v (Value.int IntKind.i64 (Oc.takeN (Oc.takeR (Oc.takeR (Oc.takeR (Oc.takeR (Oc.takeR s (6 : Int)) (1 : Int)) (1 : Int)) (1 : Int)) (1 : Int)) (4 : Int)))), (AV.v (Value.int IntKind.i64 (0 : Int)))])] (@List.nil Nat) (0 : Nat) (0 : Nat) true (@List.nil (Prod Nat Bool)) True)))) else (bif (decide ((0 : Int) < ((ByteArray.size (Oc.takeR (Oc.takeR (Oc.takeR (Oc.takeR (Oc.takeR (Oc.takeR (Oc.takeR s (6 : Int)) (1 : Int)) (1 : Int)) (1 : Int)) (1 : Int)) (4 : Int)) (1 : Int))) : Int))) then (some ((cdb (cdb (cdb (cdb (cdb (cdb (cdb True (decide ((ByteArray.size s) ≤ (9223372036854775807 : Nat)))) (decide ((ByteArray.size (Oc.takeR s (6 : Int))) ≤ (9223372036854775807 : Nat)))) (decide ((ByteArray.size (Oc.takeR (Oc.takeR s (6 : Int)) (1 : Int))) ≤ (9223372036854775807 : Nat)))) (decide ((ByteArray.size (Oc.takeR (Oc.takeR (Oc.takeR s (6 : Int)) (1 : Int)) (1 : Int))) ≤ (9223372036854775807 : Nat)))) (decide ((ByteArray.size (Oc.takeR (Oc.takeR (Oc.takeR (Oc.takeR s (6 : Int)) (1 : Int)) (1 : Int)) (1 : Int))) ≤ (9223372036854775807 : Nat)))) (decide ((ByteArray.size (Oc.takeR (Oc.takeR (Oc.takeR (Oc.takeR (Oc.takeR s (6 : Int)) (1 : Int)) (1 : Int)) (1 : Int)) (1 : Int))) ≤ (9223372036854775807 : Nat)))) (decide ((ByteArray.size (Oc.takeR (Oc.takeR (Oc.takeR (Oc.takeR (Oc.takeR (Oc.takeR s (6 : Int)) (1 : Int)) (1 : Int)) (1 : Int)) (1 : Int)) (4 : Int))) ≤ (9223372036854775807 : Nat)))) ∧ (R (Exit.panic [(Go.PanicEntry.mk (Value.iface (32 : Nat) (Value.int IntKind.i64 (2 : Int))) false false)]) [AV.dead, AV.dead, (AV.ptr (0 : Nat) (0 : Nat)), (AV.ptr (1 : Nat) (0 : Nat)), AV.dead, AV.dead, AV.dead, AV.dead, AV.dead, AV.dead, AV.dead, AV.dead, AV.dead, AV.dead, AV.dead, AV.dead, AV.dead, AV.dead, AV.dead, AV.dead] (AH.mk [((25 : Nat), [(AV.v (Value.int IntKind.i64 (exInt (AV.v (Value.int IntKind.i64 (Oc.takeN s (6 : Int))))))), (AV.v (Value.int IntKind.i64 (exInt (AV.v (Value.int IntKind.i64 (Oc.takeN (Oc.takeR s (6 : Int)) (1 : Int))))))), (AV.v (Value.int IntKind.i64 (IntKind.wrap IntKind.i64 ((exInt (AV.v (Value.int IntKind.i64 (Oc.takeN (Oc.takeR (Oc.takeR s (6 : Int)) (1 : Int)) (1 : Int))))) - (1 : Int))))), (AV.v (Value.int IntKind.i64 (exInt (AV.v (Value.int IntKind.i64 (Oc.takeN (Oc.takeR (Oc.takeR (Oc.takeR s (6 : Int)) (1 : Int)) (1 : Int)) (1 : Int))))))), (AV.v (Value.int IntKind.i64 (exInt (AV.v (Value.int IntKind.i64 (Oc.takeN (Oc.takeR (Oc.takeR (Oc.takeR (Oc.takeR s (6 : Int)) (1 : Int)) (1 : Int)) (1 : Int)) (1 : Int))))))), (AV.v (Value.int IntKind.i64 (exInt (AV.v (Value.int IntKind.i64 (Oc.takeN (Oc.takeR (Oc.takeR (Oc.takeR (Oc.takeR (Oc.takeR s (6 : Int)) (1 : Int)) (1 : Int)) (1 : Int)) (1 : Int)) (4 : Int))))))), (AV.v (Value.int IntKind.i64 (exInt (AV.v (Value.int IntKind.i64 (Oc.takeN (Oc.takeR (Oc.takeR (Oc.takeR (Oc.takeR (Oc.takeR (Oc.takeR s (6 : Int)) (1 : Int)) (1 : Int)) (1 : Int)) (1 : Int)) (4 : Int)) (1 : Int)))))))]), ((32 : Nat), [(AV.v (Value.int IntKind.i64 (0 : Int)))]), ((116 : Nat), [(AV.v (Value.string (Oc.takeR (Oc.takeR (Oc.takeR (Oc.takeR (Oc.takeR (Oc.takeR (Oc.takeR s (6 : Int)) (1 : Int)) (1 : Int)) (1 : Int)) (1 : Int)) (4 : Int)) (1 : Int))))]), ((25 : Nat), [(AV.v (Value.int IntKind.i64 (exInt (AV.v (Value.int IntKind.i64 (Oc.takeN s (6 : Int))))))), (AV.v (Value.int IntKind.i64 (exInt (AV.v (Value.int IntKind.i64 (Oc.takeN (Oc.takeR s (6 : Int)) (1 : Int))))))), (AV.v (Value.int IntKind.i64 (IntKind.wrap IntKind.i64 ((exInt (AV.v (Value.int IntKind.i64 (Oc.takeN (Oc.takeR (Oc.takeR s (6 : Int)) (1 : Int)) (1 : Int))))) - (1 : Int))))), (AV.v (Value.int IntKind.i64 (exInt (AV.v (Value.int IntKind.i64 (Oc.takeN (Oc.takeR (Oc.takeR (Oc.takeR s (6 : Int)) (1 : Int)) (1 : Int)) (1 : Int))))))), (AV.v (Value.int IntKind.i64 (exInt (AV.v (Value.int IntKind.i64 (Oc.takeN (Oc.takeR (Oc.takeR (Oc.takeR (Oc.takeR s (6 : Int)) (1 : Int)) (1 : Int)) (1 : Int)) (1 : Int))))))), (AV.v (Value.int IntKind.i64 (exInt (AV.v (Value.int IntKind.i64 (Oc.takeN (Oc.takeR (Oc.takeR (Oc.takeR (Oc.takeR (Oc.takeR s (6 : Int)) (1 : Int)) (1 : Int)) (1 : Int)) (1 : Int)) (4 : Int))))))), (AV.v (Value.int IntKind.i64 (exInt (AV.v (Value.int IntKind.i64 (Oc.takeN (Oc.takeR (Oc.takeR (Oc.takeR (Oc.takeR (Oc.takeR (Oc.takeR s (6 : Int)) (1 : Int)) (1 : Int)) (1 : Int)) (1 : Int)) (4 : Int)) (1 : Int)))))))]), ((120 : Nat), [(AV.v (Value.int IntKind.i64 (Oc.takeN s (6 : Int)))), (AV.v (Value.int IntKind.i64 (Oc.takeN (Oc.takeR s (6 : Int)) (1 : Int)))), (AV.v (Value.int IntKind.i64 (Oc.takeN (Oc.takeR (Oc.takeR s (6 : Int)) (1 : Int)) (1 : Int)))), (AV.v (Value.int IntKind.i64 (Oc.takeN (Oc.takeR (Oc.takeR (Oc.takeR s (6 : Int)) (1 : Int)) (1 : Int)) (1 : Int)))), (AV.v (Value.int IntKind.i64 (Oc.takeN (Oc.takeR (Oc.takeR (Oc.takeR (Oc.takeR s (6 : Int)) (1 : Int)) (1 : Int)) (1 : Int)) (1 : Int)))), (AV.v (Value.int IntKind.i64 (Oc.takeN (Oc.takeR (Oc.takeR (Oc.takeR (Oc.takeR (Oc.takeR s (6 : Int)) (1 : Int)) (1 : Int)) (1 : Int)) (1 : Int)) (4 : Int)))), (AV.v (Value.int IntKind.i64 (Oc.takeN (Oc.takeR (Oc.takeR (Oc.takeR (Oc.takeR (Oc.takeR (Oc.takeR s (6 : Int)) (1 : Int)) (1 : Int)) (1 : Int)) (1 : Int)) (4 : Int)) (1 : Int))))])] (@List.nil Nat) (0 : Nat) (0 : Nat) true (@List.nil (Prod Nat Bool)) True)))) else (bif ((A25.chk25 (A25.six [(exInt (AV.v (Value.int IntKind.i64 (Oc.takeN s (6 : Int))))), (exInt (AV.v (Value.int IntKind.i64 (Oc.takeN (Oc.takeR s (6 : Int)) (1 : Int))))), (IntKind.wrap IntKind.i64 ((exInt (AV.v (Value.int IntKind.i64 (Oc.takeN (Oc.takeR (Oc.takeR s (6 : Int)) (1 : Int)) (1 : Int))))) - (1 : Int))), (exInt (AV.v (Value.int IntKind.i64 (Oc.takeN (Oc.takeR (Oc.takeR (Oc.takeR s (6 : Int)) (1 : Int)) (1 : Int)) (1 : Int))))), (exInt (AV.v (Value.int IntKind.i64 (Oc.takeN (Oc.takeR (Oc.takeR (Oc.takeR (Oc.takeR s (6 : Int)) (1 : Int)) (1 : Int)) (1 : Int)) (1 : Int))))), (exInt (AV.v (Value.int IntKind.i64 (Oc.takeN (Oc.takeR (Oc.takeR (Oc.takeR (Oc.takeR (Oc.takeR s (6 : Int)) (1 : Int)) (1 : Int)) (1 : Int)) (1 : Int)) (4 : Int))))), (exInt (AV.v (Value.int IntKind.i64 (Oc.takeN (Oc.takeR (Oc.takeR (Oc.takeR (Oc.takeR (Oc.takeR (Oc.takeR s (6 : Int)) (1 : Int)) (1 : Int)) (1 : Int)) (1 : Int)) (4 : Int)) (1 : Int)))))])) != (0 : Int)) then (some ((cdb (cdb (cdb (cdb (cdb (cdb (cdb True (decide ((ByteArray.size s) ≤ (9223372036854775807 : Nat)))) (decide ((ByteArray.size (Oc.takeR s (6 : Int))) ≤ (9223372036854775807 : Nat)))) (decide ((ByteArray.size (Oc.takeR (Oc.takeR s (6 : Int)) (1 : Int))) ≤ (9223372036854775807 : Nat)))) (decide ((ByteArray.size (Oc.takeR (Oc.takeR (Oc.takeR s (6 : Int)) (1 : Int)) (1 : Int))) ≤ (9223372036854775807 : Nat)))) (decide ((ByteArray.size (Oc.takeR (Oc.takeR (Oc.takeR (Oc.takeR s (6 : Int)) (1 : Int)) (1 : Int)) (1 : Int))) ≤ (9223372036854775807 : Nat)))) (decide ((ByteArray.size (Oc.takeR (Oc.takeR (Oc.takeR (Oc.takeR (Oc.takeR s (6 : Int)) (1 : Int)) (1 : Int)) (1 : Int)) (1 : Int))) ≤ (9223372036854775807 : Nat)))) (decide ((ByteArray.size (Oc.takeR (Oc.takeR (Oc.takeR (Oc.takeR (Oc.takeR (Oc.takeR s (6 : Int)) (1 : Int)) (1 : Int)) (1 : Int)) (1 : Int)) (4 : Int))) ≤ (9223372036854775807 : Nat)))) ∧ (R (Exit.panic [(Go.PanicEntry.mk (Value.iface (32 : Nat) (Value.int IntKind.i64 (2 : Int))) false false)]) [AV.dead, AV.dead, (AV.ptr (0 : Nat) (0 : Nat)), (AV.ptr (1 : Nat) (0 : Nat)), AV.dead, AV.dead, AV.dead, AV.dead, AV.dead, AV.dead, AV.dead, AV.dead, AV.dead, AV.dead, AV.dead, AV.dead, AV.dead, AV.dead, AV.dead, AV.dead] (AH.mk [((25 : Nat), [(AV.v (Value.int IntKind.i64 (exInt (AV.v (Value.int IntKind.i64 (Oc.takeN s (6 : Int))))))), (AV.v (Value.int IntKind.i64 (exInt (AV.v (Value.int IntKind.i64 (Oc.takeN (Oc.takeR s (6 : Int)) (1 : Int))))))), (AV.v (Value.int IntKind.i64 (IntKind.wrap IntKind.i64 ((exInt (AV.v (Value.int IntKind.i64 (Oc.takeN (Oc.takeR (Oc.takeR s (6 : Int)) (1 : Int)) (1 : Int))))) - (1 : Int))))), (AV.v (Value.int IntKind.i64 (exInt (AV.v (Value.int IntKind.i64 (Oc.takeN (Oc.takeR (Oc.takeR (Oc.takeR s (6 : Int)) (1 : Int)) (1 : Int)) (1 : Int))))))), (AV.v (Value.int IntKind.i64 (exInt (AV.v (Value.int IntKind.i64 (Oc.takeN (Oc.takeR (Oc.takeR (Oc.takeR (Oc.takeR s (6 : Int)) (1 : Int)) (1 : Int)) (1 : Int)) (1 : Int))))))), (AV.v (Value.int IntKind.i64 (exInt (AV.v (Value.int IntKind.i64 (Oc.takeN (Oc.takeR (Oc.takeR (Oc.takeR (Oc.takeR (Oc.takeR s (6 : Int)) (1 : Int)) (1 : Int)) (1 : Int)) (1 : Int)) (4 : Int))))))), (AV.v (Value.int IntKind.i64 (exInt (AV.v (Value.int IntKind.i64 (Oc.takeN (Oc.takeR (Oc.takeR (Oc.takeR (Oc.takeR (Oc.takeR (Oc.takeR s (6 : Int)) (1 : Int)) (1 : Int)) (1 : Int)) (1 : Int)) (4 : Int)) (1 : Int)))))))]), ((32 : Nat), [(AV.v (Value.int IntKind.i64 (0 : Int)))]), ((116 : Nat), [(AV.v (Value.string (Oc.takeR (Oc.takeR (Oc.takeR (Oc.takeR (Oc.takeR (Oc.takeR (Oc.takeR s (6 : Int)) (1 : Int)) (1 : Int)) (1 : Int)) (1 : Int)) (4 : Int)) (1 : Int))))]), ((25 : Nat), [(AV.v (Value.int IntKind.i64 (exInt (AV.v (Value.int IntKind.i64 (Oc.takeN s (6 : Int))))))), (AV.v (Value.int IntKind.i64 (exInt (AV.v (Value.int IntKind.i64 (Oc.takeN (Oc.takeR s (6 : Int)) (1 : Int))))))), (AV.v (Value.int IntKind.i64 (IntKind.wrap IntKind.i64 ((exInt (AV.v (Value.int IntKind.i64 (Oc.takeN (Oc.takeR (Oc.takeR s (6 : Int)) (1 : Int)) (1 : Int))))) - (1 : Int))))), (AV.v (Value.int IntKind.i64 (exInt (AV.v (Value.int IntKind.i64 (Oc.takeN (Oc.takeR (Oc.takeR (Oc.takeR s (6 : Int)) (1 : Int)) (1 : Int)) (1 : Int))))))), (AV.v (Value.int IntKind.i64 (exInt (AV.v (Value.int IntKind.i64 (Oc.takeN (Oc.takeR (Oc.takeR (Oc.takeR (Oc.takeR s (6 : Int)) (1 : Int)) (1 : Int)) (1 : Int)) (1 : Int))))))), (AV.v (Value.int IntKind.i64 (exInt (AV.v (Value.int IntKind.i64 (Oc.takeN (Oc.takeR (Oc.takeR (Oc.takeR (Oc.takeR (Oc.takeR s (6 : Int)) (1 : Int)) (1 : Int)) (1 : Int)) (1 : Int)) (4 : Int))))))), (AV.v (Value.int IntKind.i64 (exInt (AV.v (Value.int IntKind.i64 (Oc.takeN (Oc.takeR (Oc.takeR (Oc.takeR (Oc.takeR (Oc.takeR (Oc.takeR s (6 : Int)) (1 : Int)) (1 : Int)) (1 : Int)) (1 : Int)) (4 : Int)) (1 : Int)))))))]), ((120 : Nat), [(AV.v (Value.int IntKind.i64 (Oc.takeN s (6 : Int)))), (AV.v (Value.int IntKind.i64 (Oc.takeN (Oc.takeR s (6 : Int)) (1 : Int)))), (AV.v (Value.int IntKind.i64 (Oc.takeN (Oc.takeR (Oc.takeR s (6 : Int)) (1 : Int)) (1 : Int)))), (AV.v (Value.int IntKind.i64 (Oc.takeN (Oc.takeR (Oc.takeR (Oc.takeR s (6 : Int)) (1 : Int)) (1 : Int)) (1 : Int)))), (AV.v (Value.int IntKind.i64 (Oc.takeN (Oc.takeR (Oc.takeR (Oc.takeR (Oc.takeR s (6 : Int)) (1 : Int)) (1 : Int)) (1 : Int)) (1 : Int)))), (AV.v (Value.int IntKind.i64 (Oc.takeN (Oc.takeR (Oc.takeR (Oc.takeR (Oc.takeR (Oc.takeR s (6 : Int)) (1 : Int)) (1 : Int)) (1 : Int)) (1 : Int)) (4 : Int)))), (AV.v (Value.int IntKind.i64 (Oc.takeN (Oc.takeR (Oc.takeR (Oc.takeR (Oc.takeR (Oc.takeR (Oc.takeR s (6 : Int)) (1 : Int)) (1 : Int)) (1 : Int)) (1 : Int)) (4 : Int)) (1 : Int))))])] (@List.nil Nat) (0 : Nat) (0 : Nat) true (@List.nil (Prod Nat Bool)) True)))) else (some ((cdb (cdb (cdb (cdb (cdb (cdb (cdb True (decide ((ByteArray.size s) ≤ (9223372036854775807 : Nat)))) (decide ((ByteArray.size (Oc.takeR s (6 : Int))) ≤ (9223372036854775807 : Nat)))) (decide ((ByteArray.size (Oc.takeR (Oc.takeR s (6 : Int)) (1 : Int))) ≤ (9223372036854775807 : Nat)))) (decide ((ByteArray.size (Oc.takeR (Oc.takeR (Oc.takeR s (6 : Int)) (1 : Int)) (1 : Int))) ≤ (9223372036854775807 : Nat)))) (decide ((ByteArray.size (Oc.takeR (Oc.takeR (Oc.takeR (Oc.takeR s (6 : Int)) (1 : Int)) (1 : Int)) (1 : Int))) ≤ (9223372036854775807 : Nat)))) (decide ((ByteArray.size (Oc.takeR (Oc.takeR (Oc.takeR (Oc.takeR (Oc.takeR s (6 : Int)) (1 : Int)) (1 : Int)) (1 : Int)) (1 : Int))) ≤ (9223372036854775807 : Nat)))) (decide ((ByteArray.size (Oc.takeR (Oc.takeR (Oc.takeR (Oc.takeR (Oc.takeR (Oc.takeR s (6 : Int)) (1 : Int)) (1 : Int)) (1 : Int)) (1 : Int)) (4 : Int))) ≤ (9223372036854775807 : Nat)))) ∧ (R Exit.ret [AV.dead, AV.dead, (AV.ptr (0 : Nat) (0 : Nat)), (AV.ptr (1 : Nat) (0 : Nat)), AV.dead, AV.dead, AV.dead, AV.dead, AV.dead, AV.dead, AV.dead, AV.dead, AV.dead, AV.dead, AV.dead, AV.dead, AV.dead, AV.dead, AV.dead, AV.dead] (AH.mk [((25 : Nat), [(AV.v (Value.int IntKind.i64 (exInt (AV.v (Value.int IntKind.i64 (Oc.takeN s (6 : Int))))))), (AV.v (Value.int IntKind.i64 (exInt (AV.v (Value.int IntKind.i64 (Oc.takeN (Oc.takeR s (6 : Int)) (1 : Int))))))), (AV.v (Value.int IntKind.i64 (IntKind.wrap IntKind.i64 ((exInt (AV.v (Value.int IntKind.i64 (Oc.takeN (Oc.takeR (Oc.takeR s (6 : Int)) (1 : Int)) (1 : Int))))) - (1 : Int))))), (AV.v (Value.int IntKind.i64 (exInt (AV.v (Value.int IntKind.i64 (Oc.takeN (Oc.takeR (Oc.takeR (Oc.takeR s (6 : Int)) (1 : Int)) (1 : Int)) (1 : Int))))))), (AV.v (Value.int IntKind.i64 (exInt (AV.v (Value.int IntKind.i64 (Oc.takeN (Oc.takeR (Oc.takeR (Oc.takeR (Oc.takeR s (6 : Int)) (1 : Int)) (1 : Int)) (1 : Int)) (1 : Int))))))), (AV.v (Value.int IntKind.i64 (exInt (AV.v (Value.int IntKind.i64 (Oc.takeN (Oc.takeR (Oc.takeR (Oc.takeR (Oc.takeR (Oc.takeR s (6 : Int)) (1 : Int)) (1 : Int)) (1 : Int)) (1 : Int)) (4 : Int))))))), (AV.v (Value.int IntKind.i64 (exInt (AV.v (Value.int IntKind.i64 (Oc.takeN (Oc.takeR (Oc.takeR (Oc.takeR (Oc.takeR (Oc.takeR (Oc.takeR s (6 : Int)) (1 : Int)) (1 : Int)) (1 : Int)) (1 : Int)) (4 : Int)) (1 : Int)))))))]), ((32 : Nat), [(AV.v (Value.int IntKind.i64 (0 : Int)))]), ((116 : Nat), [(AV.v (Value.string (Oc.takeR (Oc.takeR (Oc.takeR (Oc.takeR (Oc.takeR (Oc.takeR (Oc.takeR s (6 : Int)) (1 : Int)) (1 : Int)) (1 : Int)) (1 : Int)) (4 : Int)) (1 : Int))))]), ((25 : Nat), [(AV.v (Value.int IntKind.i64 (exInt (AV.v (Value.int IntKind.i64 (Oc.takeN s (6 : Int))))))), (AV.v (Value.int IntKind.i64 (exInt (AV.v (Value.int IntKind.i64 (Oc.takeN (Oc.takeR s (6 : Int)) (1 : Int))))))), (AV.v (Value.int IntKind.i64 (IntKind.wrap IntKind.i64 ((exInt (AV.v (Value.int IntKind.i64 (Oc.takeN (Oc.takeR (Oc.takeR s (6 : Int)) (1 : Int)) (1 : Int))))) - (1 : Int))))), (AV.v (Value.int IntKind.i64 (exInt (AV.v (Value.int IntKind.i64 (Oc.takeN (Oc.takeR (Oc.takeR (Oc.takeR s (6 : Int)) (1 : Int)) (1 : Int)) (1 : Int))))))), (AV.v (Value.int IntKind.i64 (exInt (AV.v (Value.int IntKind.i64 (Oc.takeN (Oc.takeR (Oc.takeR (Oc.takeR (Oc.takeR s (6 : Int)) (1 : Int)) (1 : Int)) (1 : Int)) (1 : Int))))))), (AV.v (Value.int IntKind.i64 (exInt (AV.v (Value.int IntKind.i64 (Oc.takeN (Oc.takeR (Oc.takeR (Oc.takeR (Oc.takeR (Oc.takeR s (6 : Int)) (1 : Int)) (1 : Int)) (1 : Int)) (1 : Int)) (4 : Int))))))), (AV.v (Value.int IntKind.i64 (exInt (AV.v (Value.int IntKind.i64 (Oc.takeN (Oc.takeR (Oc.takeR (Oc.takeR (Oc.takeR (Oc.takeR (Oc.takeR s (6 : Int)) (1 : Int)) (1 : Int)) (1 : Int)) (1 : Int)) (4 : Int)) (1 : Int)))))))]), ((120 : Nat), [(AV.v (Value.int IntKind.i64 (Oc.takeN s (6 : Int)))), (AV.v (Value.int IntKind.i64 (Oc.takeN (Oc.takeR s (6 : Int)) (1 : Int)))), (AV.v (Value.int IntKind.i64 (Oc.takeN (Oc.takeR (Oc.takeR s (6 : Int)) (1 : Int)) (1 : Int)))), (AV.v (Value.int IntKind.i64 (Oc.takeN (Oc.takeR (Oc.takeR (Oc.takeR s (6 : Int)) (1 : Int)) (1 : Int)) (1 : Int)))), (AV.v (Value.int IntKind.i64 (Oc.takeN (Oc.takeR (Oc.takeR (Oc.takeR (Oc.takeR s (6 : Int)) (1 : Int)) (1 : Int)) (1 : Int)) (1 : Int)))), (AV.v (Value.int IntKind.i64 (Oc.takeN (Oc.takeR (Oc.takeR (Oc.takeR (Oc.takeR (Oc.takeR s (6 : Int)) (1 : Int)) (1 : Int)) (1 : Int)) (1 : Int)) (4 : Int)))), (AV.v (Value.int IntKind.i64 (Oc.takeN (Oc.takeR (Oc.takeR (Oc.takeR (Oc.takeR (Oc.takeR (Oc.takeR s (6 : Int)) (1 : Int)) (1 : Int)) (1 : Int)) (1 : Int)) (4 : Int)) (1 : Int))))])] (@List.nil Nat) (0 : Nat) (0 : Nat) true (@List.nil (Prod Nat Bool)) True))))))))))))) := by kernel_rfl
end Go.Proofs.YtlonpmcgejdkkaaGreatDoor.AE.A25
namespace Go.Proofs.YtlonpmcgejdkkaaGreatDoor.AE.A25
set_option maxRecDepth 100000
open Go.RowKit Oc Nm
def gB (x0 x1 x2 x3 x4 x5 x6 : Int) (more : List (TypeId × List AV)) : AH := hp ((25, [.v (.int .i64 x0), .v (.int .i64 x1), .v (.int .i64 x2), .v (.int .i64 x3), .v (.int .i64 x4), .v (.int .i64 x5), .v (.int .i64 x6)]) :: (32, [.v (.int .i64 0)]) :: more) []
def gC (w : Value) (ok : Bool) : List AV := [.ptr 0 0, .ptr 1 0, .v w, .v (.bool ok)] ++ List.replicate 8 .dead
theorem g_r1 (e : Int) : recG Tryz.prog (sub (bodyOf 53) [0]) ([.ptr 0 0, .ptr 1 0] ++ List.replicate 10 (.v undef)) (.iface 32 (.int .i64 e)) =
    (some [(AV.ptr (0 : Nat) (0 : Nat)), (AV.ptr (1 : Nat) (0 : Nat)), (AV.v (Value.int IntKind.i64 e)), (AV.v (Value.bool true)), (AV.v (Value.tuple #[(Value.int IntKind.i64 e), (Value.bool true)])), (AV.v (Value.iface (32 : Nat) (Value.int IntKind.i64 e))), (AV.v (Value.tuple #[(Value.int IntKind.i64 e), (Value.bool true)])), (AV.v (Value.int IntKind.i64 e)), (AV.v (Value.bool true)), (AV.v (Value.tuple (Array.mk (@List.nil Go.Value)))), (AV.v (Value.tuple (Array.mk (@List.nil Go.Value)))), (AV.v (Value.tuple (Array.mk (@List.nil Go.Value))))]) := by kernel_rfl
theorem g_r0  : recG Tryz.prog (sub (bodyOf 53) [0]) ([.ptr 0 0, .ptr 1 0] ++ List.replicate 10 (.v undef)) .nilIface =
    (some [(AV.ptr (0 : Nat) (0 : Nat)), (AV.ptr (1 : Nat) (0 : Nat)), (AV.v (Value.int IntKind.i64 (0 : Int))), (AV.v (Value.bool false)), (AV.v (Value.tuple #[(Value.int IntKind.i64 (0 : Int)), (Value.bool false)])), (AV.v Value.nilIface), (AV.v (Value.tuple #[(Value.int IntKind.i64 (0 : Int)), (Value.bool false)])), (AV.v (Value.int IntKind.i64 (0 : Int))), (AV.v (Value.bool false)), (AV.v (Value.tuple (Array.mk (@List.nil Go.Value)))), (AV.v (Value.tuple (Array.mk (@List.nil Go.Value)))), (AV.v (Value.tuple (Array.mk (@List.nil Go.Value))))]) := by kernel_rfl
theorem g_t1 (e : Int) (x0 x1 x2 x3 x4 x5 x6 : Int) (more : List (TypeId × List AV)) (R : Exit → List AV → AH → Prop) : code ro25 (fun _ => false) (fun _ => none) 8 (sub (bodyOf 53) [1]) (gC (.int .i64 e) true) (gB x0 x1 x2 x3 x4 x5 x6 more) (kp [] R) =
    (some (True ∧ (R Exit.normal [AV.dead, AV.dead, AV.dead, AV.dead, AV.dead, AV.dead, AV.dead, AV.dead, AV.dead, AV.dead, AV.dead, AV.dead] (AH.mk (((25 : Nat), [(AV.v (Value.int IntKind.i64 (0 : Int))), (AV.v (Value.int IntKind.i64 (0 : Int))), (AV.v (Value.int IntKind.i64 (0 : Int))), (AV.v (Value.int IntKind.i64 (0 : Int))), (AV.v (Value.int IntKind.i64 (0 : Int))), (AV.v (Value.int IntKind.i64 (0 : Int))), (AV.v (Value.int IntKind.i64 (0 : Int)))]) :: ((32 : Nat), [(AV.v (Value.int IntKind.i64 e))]) :: more) (@List.nil Nat) (0 : Nat) (0 : Nat) true (@List.nil (Prod Nat Bool)) True)))) := by kernel_rfl
theorem g_t0 (w : Value) (x0 x1 x2 x3 x4 x5 x6 : Int) (more : List (TypeId × List AV)) (R : Exit → List AV → AH → Prop) : code ro25 (fun _ => false) (fun _ => none) 8 (sub (bodyOf 53) [1]) (gC w false) (gB x0 x1 x2 x3 x4 x5 x6 more) (kp [] R) =
    (some (True ∧ (R Exit.normal [AV.dead, AV.dead, AV.dead, AV.dead, AV.dead, AV.dead, AV.dead, AV.dead, AV.dead, AV.dead, AV.dead, AV.dead] (AH.mk (((25 : Nat), [(AV.v (Value.int IntKind.i64 x0)), (AV.v (Value.int IntKind.i64 x1)), (AV.v (Value.int IntKind.i64 x2)), (AV.v (Value.int IntKind.i64 x3)), (AV.v (Value.int IntKind.i64 x4)), (AV.v (Value.int IntKind.i64 x5)), (AV.v (Value.int IntKind.i64 x6))]) :: ((32 : Nat), [(AV.v (Value.int IntKind.i64 (0 : Int)))]) :: more) (@List.nil Nat) (0 : Nat) (0 : Nat) true (@List.nil (Prod Nat Bool)) True)))) := by kernel_rfl
def gD : List AV := [.dead, .dead, .ptr 0 0, .ptr 1 0] ++ List.replicate 16 .dead
def gEnd (e : Exit) (H2 : AH) (v : AV) : Prop := ∃ rv ar, endV e = some rv ∧ recG Tryz.prog (sub (bodyOf 53) [0]) ([.ptr 0 0, .ptr 1 0] ++ List.replicate 10 (.v undef)) (rv.getD .nilIface) = some ar ∧
  Tr Tryz.prog ro25 (sub (bodyOf 53) [1]) ar H2 fun e3 _ H3 => (e3 = .normal ∨ e3 = .ret) ∧ ansOk (fun r _ => r = v) (resOf Tryz.prog ro25 [.cell 2 25, .cell 3 32] gD H3)
theorem clo1 (e : Int) (x0 x1 x2 x3 x4 x5 x6 : Int) (more : List (TypeId × List AV)) {v : AV} (hv : AV.v (.tuple #[reqV fun _ => 0, .int .i64 e]) = v) : gEnd (.panic [⟨.iface 32 (.int .i64 e), false, false⟩]) (gB x0 x1 x2 x3 x4 x5 x6 more) v := by
  subst hv
  refine ⟨some (.iface 32 (.int .i64 e)), _, rfl, g_r1 e, Tr.keep [0, 1, 2, 3] ?_⟩
  exact Tr.of_code (known_none _) (g_t1 e x0 x1 x2 x3 x4 x5 x6 more _) ⟨trivial, .inl rfl, trivial, rfl⟩
theorem clo0 (x0 x1 x2 x3 x4 x5 x6 : Int) (more : List (TypeId × List AV)) {v : AV} (hv : AV.v (.tuple #[.agg #[.int .i64 x0, .int .i64 x1, .int .i64 x2, .int .i64 x3, .int .i64 x4, .int .i64 x5, .int .i64 x6], .int .i64 0]) = v) : gEnd .ret (gB x0 x1 x2 x3 x4 x5 x6 more) v := by
  subst hv
  refine ⟨none, _, rfl, g_r0, Tr.keep [0, 1, 2, 3] ?_⟩
  exact Tr.of_code (known_none _) (g_t0 (.int .i64 0) x0 x1 x2 x3 x4 x5 x6 more _) ⟨trivial, .inl rfl, trivial, rfl⟩
end Go.Proofs.YtlonpmcgejdkkaaGreatDoor.AE.A25
namespace Go.Proofs.YtlonpmcgejdkkaaGreatDoor.AE.A25
set_option maxRecDepth 100000
open Go.RowKit Oc Nm
set_option maxHeartbeats 1000000 in
theorem fs_get (s : ByteArray) (hs : s.size ≤ maxLen) : Fs Tryz.prog ro25 33 [.v (.string s)] (hp [] []) fun r _ => r = .v (getV s) := by
  refine Fs.of_defer (x := sub (bodyOf 33) [0]) (d := sub (bodyOf 33) [1, 0]) (y := sub (bodyOf 33) [1, 1]) (h := 53) (cap := [.tmp 2, .tmp 3]) (s := 5) Tryz.func33 (by kernel_rfl) (by kernel_rfl) (z := sub (bodyOf 53) [0]) (t := sub (bodyOf 53) [1]) Tryz.func53 (by kernel_rfl) (by kernel_rfl) (by kernel_rfl) ?_
  show Tr _ _ _ ([.v (.string s)] ++ List.replicate 19 (.v undef)) _ _
  refine Tr.of_code knownB (g_x s _) ⟨trivial, rfl, (by show 5 < 20; decide), Tr.keep [0, 2, 3, 5] ?_⟩
  show Tr _ _ _ (gA s) gH (fun e2 a2 H2 => ∃ rv ar, endV e2 = some rv ∧ recG Tryz.prog (sub (bodyOf 53) [0]) ([.ptr 0 0, .ptr 1 0] ++ List.replicate 10 (.v undef)) (rv.getD .nilIface) = some ar ∧
    Tr Tryz.prog ro25 (sub (bodyOf 53) [1]) ar H2 fun e3 _ H3 => (e3 = .normal ∨ e3 = .ret) ∧ ansOk (fun r _ => r = AV.v (getV s)) (resOf Tryz.prog ro25 [.cell 2 25, .cell 3 32] a2 H3))
  refine Tr.of_code knownB (g_y s _) ?_
  unfold maxLen at hs
  obtain ⟨s1, q1⟩ : ∃ x, x = takeR s 6 := ⟨_, rfl⟩
  obtain ⟨s2, q2⟩ : ∃ x, x = takeR s1 1 := ⟨_, rfl⟩
  obtain ⟨s3, q3⟩ : ∃ x, x = takeR s2 1 := ⟨_, rfl⟩
  obtain ⟨s4, q4⟩ : ∃ x, x = takeR s3 1 := ⟨_, rfl⟩
  obtain ⟨s5, q5⟩ : ∃ x, x = takeR s4 1 := ⟨_, rfl⟩
  obtain ⟨s6, q6⟩ : ∃ x, x = takeR s5 4 := ⟨_, rfl⟩
  obtain ⟨s7, q7⟩ : ∃ x, x = takeR s6 1 := ⟨_, rfl⟩
  rw [← q1, ← q2, ← q3, ← q4, ← q5, ← q6, ← q7]
  refine holds_bif (fun h => ?_) (fun h0 => ?_)
  · have b := take_bad_of h (by decide) (by decide)
    rw [b.1]
    refine ⟨?_, clo1 3 _ _ _ _ _ _ _ _ (get_err (e3 (by omega)) (by decide))⟩
    repeat' first
      | with_reducible exact trivial
      | with_reducible refine cdb_iff.2 ⟨?_, ?_⟩
    all_goals (refine decide_eq_true ?_; omega)
  have o0 := take_ok_of h0 (by decide) (by decide)
  rw [← q1] at o0
  refine holds_bif (fun h => ?_) (fun h1 => ?_)
  · have b := take_bad_of h (by decide) (by decide)
    rw [b.1]
    refine ⟨?_, clo1 3 _ _ _ _ _ _ _ _ (get_err (e3 (by omega)) (by decide))⟩
    repeat' first
      | with_reducible exact trivial
      | with_reducible refine cdb_iff.2 ⟨?_, ?_⟩
    all_goals (refine decide_eq_true ?_; omega)
  have o1 := take_ok_of h1 (by decide) (by decide)
  rw [← q2] at o1
  refine holds_bif (fun h => ?_) (fun h2 => ?_)
  · have b := take_bad_of h (by decide) (by decide)
    rw [b.1]
    refine ⟨?_, clo1 3 _ _ _ _ _ _ _ _ (get_err (e3 (by omega)) (by decide))⟩
    repeat' first
      | with_reducible exact trivial
      | with_reducible refine cdb_iff.2 ⟨?_, ?_⟩
    all_goals (refine decide_eq_true ?_; omega)
  have o2 := take_ok_of h2 (by decide) (by decide)
  rw [← q3] at o2
  refine holds_bif (fun h => ?_) (fun h3 => ?_)
  · have b := take_bad_of h (by decide) (by decide)
    rw [b.1]
    refine ⟨?_, clo1 3 _ _ _ _ _ _ _ _ (get_err (e3 (by omega)) (by decide))⟩
    repeat' first
      | with_reducible exact trivial
      | with_reducible refine cdb_iff.2 ⟨?_, ?_⟩
    all_goals (refine decide_eq_true ?_; omega)
  have o3 := take_ok_of h3 (by decide) (by decide)
  rw [← q4] at o3
  refine holds_bif (fun h => ?_) (fun h4 => ?_)
  · have b := take_bad_of h (by decide) (by decide)
    rw [b.1]
    refine ⟨?_, clo1 3 _ _ _ _ _ _ _ _ (get_err (e3 (by omega)) (by decide))⟩
    repeat' first
      | with_reducible exact trivial
      | with_reducible refine cdb_iff.2 ⟨?_, ?_⟩
    all_goals (refine decide_eq_true ?_; omega)
  have o4 := take_ok_of h4 (by decide) (by decide)
  rw [← q5] at o4
  refine holds_bif (fun h => ?_) (fun h5 => ?_)
  · have b := take_bad_of h (by decide) (by decide)
    rw [b.1]
    refine ⟨?_, clo1 3 _ _ _ _ _ _ _ _ (get_err (e3 (by omega)) (by decide))⟩
    repeat' first
      | with_reducible exact trivial
      | with_reducible refine cdb_iff.2 ⟨?_, ?_⟩
    all_goals (refine decide_eq_true ?_; omega)
  have o5 := take_ok_of h5 (by decide) (by decide)
  rw [← q6] at o5
  refine holds_bif (fun h => ?_) (fun h6 => ?_)
  · have b := take_bad_of h (by decide) (by decide)
    rw [b.1]
    refine ⟨?_, clo1 3 _ _ _ _ _ _ _ _ (get_err (e3 (by omega)) (by decide))⟩
    repeat' first
      | with_reducible exact trivial
      | with_reducible refine cdb_iff.2 ⟨?_, ?_⟩
    all_goals (refine decide_eq_true ?_; omega)
  have o6 := take_ok_of h6 (by decide) (by decide)
  rw [← q7] at o6
  refine holds_bif (fun h => ?_) (fun h => ?_)
  · have h := of_decide_eq_true h
    refine ⟨?_, clo1 2 _ _ _ _ _ _ _ _ (get_err (e2 (by omega) (.inl (by omega))) (by decide))⟩
    repeat' first
      | with_reducible exact trivial
      | with_reducible refine cdb_iff.2 ⟨?_, ?_⟩
    all_goals (refine decide_eq_true ?_; omega)
  have h := of_decide_eq_false h
  refine holds_bif (fun h3 => ?_) (fun h3 => ?_)
  · have h3 : (chk25 (vals25 s) != 0) = true := Eq.trans (by subst q7 q6 q5 q4 q3 q2 q1; kernel_rfl) h3
    refine ⟨?_, clo1 2 _ _ _ _ _ _ _ _ (get_err (e2 (by omega) (.inr (by simpa using h3))) (by decide))⟩
    repeat' first
      | with_reducible exact trivial
      | with_reducible refine cdb_iff.2 ⟨?_, ?_⟩
    all_goals (refine decide_eq_true ?_; omega)
  · have h3 : (chk25 (vals25 s) != 0) = false := Eq.trans (by subst q7 q6 q5 q4 q3 q2 q1; kernel_rfl) h3
    refine ⟨?_, clo0 _ _ _ _ _ _ _ _ ?_⟩
    · repeat' first
        | with_reducible exact trivial
        | with_reducible refine cdb_iff.2 ⟨?_, ?_⟩
      all_goals (refine decide_eq_true ?_; omega)
    · rw [← get_good (e0 (by omega) (by simpa using h3))]
      subst q7 q6 q5 q4 q3 q2 q1
      kernel_rfl
end Go.Proofs.YtlonpmcgejdkkaaGreatDoor.AE.A25
