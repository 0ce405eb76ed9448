
/-
  The laws of layer 25: each call comes to true.
-/
import Derived.Test.YtemjnfncncmbdaaDoorAEOct
import Derived.Test.YtemjnfncncmbdaaDoorAENum
import Derived.Test.YtemjnfncncmbdaaDoorAEDefer
import Derived.Test.YtemjnfncncmbdaaDoorAEIn
import Derived.Test.YtemjnfncncmbdaaDoorLaidS
namespace Go.Proofs.YtemjnfncncmbdaaDoor.AE
open Go.RowKit Oc
def ro25 : Nat → Option (List Value) := fun b => match b with
  | 0 => some ([6, 1, 1, 1, 1, 4, 1].map fun (n : Int) => .int .i64 n)
  | 1 => some (["good", "refused", "expired", "spent", "evicted", "late", "failed", "cut", "starved", "broken"].map fun (s : String) => .string s.toUTF8)
  | _ => none
noncomputable def prA : FuncId → Option (List AV → AH → Ans) := fun g => match g with
  | 18 => some (pure? putP)
  | 30 => some (own? (takeP 62))
  | 29 => some (pure? numP)
  | 32 => some (pure? ofP)
  | _ => none
theorem knownA : Known ro25 prA := by
  intro g p h
  unfold prA at h
  split at h
  · cases h; exact put_ok _
  · cases h; exact take_ok _
  · cases h; exact num_ok _
  · cases h; exact of_ok _
  · cases h
def req (f : Nat → Int) : AV := .v (.agg #[.int .i64 (f 0), .int .i64 (f 1), .int .i64 (f 2), .int .i64 (f 3), .int .i64 (f 4), .int .i64 (f 5), .int .i64 (f 6)])
theorem t_check (f : Nat → Int) (Φ : AV → Prop) : callK ro25 (fun _ => false) prA 10 8 [req f] (hp [] []) (fun r h => some (h.cd ∧ Φ r)) =
    (bif (decide ((0 : Int) ≤ (f (0 : Nat)))) then (bif (decide ((f (0 : Nat)) ≤ (281474976710655 : Int))) then (bif (decide ((0 : Int) ≤ (f (1 : Nat)))) then (bif (decide ((f (1 : Nat)) ≤ (7 : Int))) then (bif (decide ((-(1 : Int)) ≤ (f (2 : Nat)))) then (bif (decide ((f (2 : Nat)) ≤ (7 : Int))) then (bif ((f (2 : Nat)) != (f (1 : Nat))) then (bif (decide ((1 : Int) ≤ (f (3 : Nat)))) then (bif (decide ((f (3 : Nat)) ≤ (10 : Int))) then (bif (decide ((0 : Int) ≤ (f (4 : Nat)))) then (bif (decide ((f (4 : Nat)) ≤ (128 : Int))) then (bif (decide ((0 : Int) ≤ (f (5 : Nat)))) then (bif (decide ((f (5 : Nat)) ≤ (4294967295 : Int))) then (bif (decide ((0 : Int) ≤ (f (6 : Nat)))) then (bif (decide ((f (6 : Nat)) ≤ (7 : Int))) then (some (True ∧ (Φ (AV.v (Value.int IntKind.i64 (0 : Int)))))) else (some (True ∧ (Φ (AV.v (Value.int IntKind.i64 (1 : Int))))))) else (some (True ∧ (Φ (AV.v (Value.int IntKind.i64 (1 : Int))))))) else (some (True ∧ (Φ (AV.v (Value.int IntKind.i64 (1 : Int))))))) else (some (True ∧ (Φ (AV.v (Value.int IntKind.i64 (1 : Int))))))) else (some (True ∧ (Φ (AV.v (Value.int IntKind.i64 (1 : Int))))))) else (some (True ∧ (Φ (AV.v (Value.int IntKind.i64 (1 : Int))))))) else (some (True ∧ (Φ (AV.v (Value.int IntKind.i64 (1 : Int))))))) else (some (True ∧ (Φ (AV.v (Value.int IntKind.i64 (1 : Int))))))) else (some (True ∧ (Φ (AV.v (Value.int IntKind.i64 (1 : Int))))))) else (some (True ∧ (Φ (AV.v (Value.int IntKind.i64 (1 : Int))))))) else (some (True ∧ (Φ (AV.v (Value.int IntKind.i64 (1 : Int))))))) else (some (True ∧ (Φ (AV.v (Value.int IntKind.i64 (1 : Int))))))) else (some (True ∧ (Φ (AV.v (Value.int IntKind.i64 (1 : Int))))))) else (some (True ∧ (Φ (AV.v (Value.int IntKind.i64 (1 : Int))))))) else (some (True ∧ (Φ (AV.v (Value.int IntKind.i64 (1 : Int))))))) := by kernel_rfl
theorem t_rcheck (f : Nat → Int) (Φ : AV → Prop) : callK ro25 (fun _ => false) prA 10 9 [req f] (hp [] []) (fun r h => some (h.cd ∧ Φ r)) =
    (bif (decide ((f (0 : Nat)) < (0 : Int))) then (some (True ∧ (Φ (AV.v (Value.int IntKind.i64 (1 : Int)))))) else (bif (decide ((281474976710655 : Int) < (f (0 : Nat)))) then (some (True ∧ (Φ (AV.v (Value.int IntKind.i64 (1 : Int)))))) else (bif (decide ((f (1 : Nat)) < (0 : Int))) then (some (True ∧ (Φ (AV.v (Value.int IntKind.i64 (1 : Int)))))) else (bif (decide ((7 : Int) < (f (1 : Nat)))) then (some (True ∧ (Φ (AV.v (Value.int IntKind.i64 (1 : Int)))))) else (bif (decide ((f (2 : Nat)) < (-(1 : Int)))) then (some (True ∧ (Φ (AV.v (Value.int IntKind.i64 (1 : Int)))))) else (bif (decide ((7 : Int) < (f (2 : Nat)))) then (some (True ∧ (Φ (AV.v (Value.int IntKind.i64 (1 : Int)))))) else (bif ((f (2 : Nat)) == (f (1 : Nat))) then (some (True ∧ (Φ (AV.v (Value.int IntKind.i64 (1 : Int)))))) else (bif (decide ((f (3 : Nat)) < (1 : Int))) then (some (True ∧ (Φ (AV.v (Value.int IntKind.i64 (1 : Int)))))) else (bif (decide ((10 : Int) < (f (3 : Nat)))) then (some (True ∧ (Φ (AV.v (Value.int IntKind.i64 (1 : Int)))))) else (bif (decide ((f (4 : Nat)) < (0 : Int))) then (some (True ∧ (Φ (AV.v (Value.int IntKind.i64 (1 : Int)))))) else (bif (decide ((128 : Int) < (f (4 : Nat)))) then (some (True ∧ (Φ (AV.v (Value.int IntKind.i64 (1 : Int)))))) else (bif (decide ((f (5 : Nat)) < (0 : Int))) then (some (True ∧ (Φ (AV.v (Value.int IntKind.i64 (1 : Int)))))) else (bif (decide ((4294967295 : Int) < (f (5 : Nat)))) then (some (True ∧ (Φ (AV.v (Value.int IntKind.i64 (1 : Int)))))) else (bif (decide ((f (6 : Nat)) < (0 : Int))) then (some (True ∧ (Φ (AV.v (Value.int IntKind.i64 (1 : Int)))))) else (bif (decide ((7 : Int) < (f (6 : Nat)))) then (some (True ∧ (Φ (AV.v (Value.int IntKind.i64 (1 : Int)))))) else (some (True ∧ (Φ (AV.v (Value.int IntKind.i64 (0 : Int))))))))))))))))))))) := by kernel_rfl
end Go.Proofs.YtemjnfncncmbdaaDoor.AE
namespace Go.Proofs.YtemjnfncncmbdaaDoor.AE
open Go.RowKit Oc
def okP (f : Nat → Int) : Prop := 0 ≤ f 0 ∧ f 0 ≤ 281474976710655 ∧ 0 ≤ f 1 ∧ f 1 ≤ 7 ∧ -1 ≤ f 2 ∧ f 2 ≤ 7 ∧ f 2 ≠ f 1 ∧ 1 ≤ f 3 ∧ f 3 ≤ 10 ∧ 0 ≤ f 4 ∧ f 4 ≤ 128 ∧ 0 ≤ f 5 ∧ f 5 ≤ 4294967295 ∧ 0 ≤ f 6 ∧ f 6 ≤ 7
instance (f : Nat → Int) : Decidable (okP f) := by unfold okP; infer_instance
def chk25 (f : Nat → Int) : Int := bif decide (okP f) then 0 else 1
theorem chk_no {f : Nat → Int} (h : ¬ okP f) : AV.v (.int .i64 1) = AV.v (.int .i64 (chk25 f)) := by
  unfold chk25; rw [decide_eq_false h]; rfl
theorem chk_yes {f : Nat → Int} (h : okP f) : AV.v (.int .i64 0) = AV.v (.int .i64 (chk25 f)) := by
  unfold chk25; rw [decide_eq_true h]; rfl
theorem fs_check (f : Nat → Int) : Fs Tryd.prog ro25 8 [req f] (hp [] []) fun r _ => r = .v (.int .i64 (chk25 f)) := by
  refine Fs.of_call knownA (t_check f _) ?_
  repeat' (refine holds_bif (fun h => ?_) (fun h => ?_))
  all_goals
    refine ⟨trivial, ?_⟩
    simp only [decide_eq_true_eq, decide_eq_false_iff_not, bne_iff_ne, bne_eq_false_iff_eq, ne_eq] at *
    first
      | exact chk_no (by unfold okP; omega)
      | exact chk_yes (by unfold okP; omega)
theorem fs_rcheck (f : Nat → Int) : Fs Tryd.prog ro25 9 [req f] (hp [] []) fun r _ => r = .v (.int .i64 (chk25 f)) := by
  refine Fs.of_call knownA (t_rcheck f _) ?_
  repeat' (refine holds_bif (fun h => ?_) (fun h => ?_))
  all_goals
    refine ⟨trivial, ?_⟩
    simp only [decide_eq_true_eq, decide_eq_false_iff_not, beq_iff_eq, beq_eq_false_iff_ne, ne_eq] at *
    first
      | exact chk_no (by unfold okP; omega)
      | exact chk_yes (by unfold okP; omega)
/-- Plain numbers. -/
def ints? : List Value → Option (List Int)
  | [] => some []
  | .int .i64 n :: l => match ints? l with
    | some r => some (n :: r)
    | none => none
  | _ => none
theorem ints_map : ∀ {l : List Value} {r : List Int}, ints? l = some r → l = r.map (Value.int .i64)
  | [], r, h => by cases h; rfl
  | x :: l, r, h => by
    unfold ints? at h
    split at h
    · rename_i heq; cases heq
    · rename_i heq
      cases heq
      split at h
      · rename_i q hq
        cases h
        rw [ints_map hq]; rfl
      · cases h
    · cases h
def six (l : List Int) : Nat → Int := fun n => l.getD n 0
def sixP (F : (Nat → Int) → Value) : List Value → Option (Value × Bool) := fun us => match us with
  | [.agg cs] => match ints? cs.toList with
    | some l => match decide (l.length = 7) with
      | true => some (F (six l), true)
      | false => none
    | none => none
  | _ => none
theorem req_of {cs : Array Value} {l : List Int} (h : ints? cs.toList = some l) (h6 : l.length = 7) : AV.v (.agg cs) = req (six l) := by
  have := ints_map h
  obtain ⟨c⟩ := cs
  have : c = l.map (Value.int .i64) := this
  subst this
  match l, h6 with
  | [a, b, c, d, e, f, g], _ => rfl
theorem six_of {g : FuncId} {F : (Nat → Int) → Value} (hg : ∀ f : Nat → Int, Fs Tryd.prog ro25 g [req f] (hp [] []) fun r _ => r = .v (F f)) : ∀ us c, sixP F us = some (c, true) → Fs Tryd.prog ro25 g (us.map .v) (hp [] []) fun r _ => r = .v c := by
  intro us c h
  unfold sixP at h
  split at h
  · split at h
    · rename_i l hl
      split at h
      · rename_i h6
        cases h
        have := req_of hl (of_decide_eq_true h6)
        rw [List.map_cons, List.map_nil, this]
        exact hg (six l)
      · cases h
    · cases h
  · cases h
def chkV (f : Nat → Int) : Value := .int .i64 (chk25 f)
def numsP : List AV → Option (AV × Bool) := fun ar => match ar with
  | [.v (.string s), .lst 1 xs _] => match vals? xs with
    | some us => match ints? us with
      | some wl => match wl.isEmpty with
        | false => some (.lst 1 ((numsOf wl s).map gi) .no, enough wl s && decide (s.size ≤ maxLen) && decide (wl.length ≤ 1000))
        | true => none
      | none => none
    | none => none
  | _ => none
theorem nums_ok : ∀ args H r H', data? numsP args H = some (r, H') → HSound1 Tryd.prog ro25 26 args H r H' := by
  refine data_ok (has_fn (by kernel_rfl)) fun args r h => ?_
  unfold numsP at h
  split at h
  · rename_i s xs tip
    split at h
    · rename_i us hu
      split at h
      · rename_i wl hl
        split at h
        · rename_i hne
          simp only [Option.some.injEq, Prod.mk.injEq, Bool.and_eq_true, decide_eq_true_eq] at h
          obtain ⟨rfl, ⟨h1, h2⟩, h3⟩ := h
          have e1 := vals_map hu
          have e2 := ints_map hl
          subst e2
          subst e1
          have e3 : (wl.map (Value.int .i64)).map AV.v = wl.map gi := by rw [List.map_map]; rfl
          rw [e3]
          exact (fs_nums s wl tip h2 h3 (ne_nil hne) h1).ro _
        · cases h
      · cases h
    · cases h
  · cases h
noncomputable def prB : FuncId → Option (List AV → AH → Ans) := fun g => match g with
  | 8 => some (pure? (sixP chkV))
  | 9 => some (pure? (sixP chkV))
  | 26 => some (data? numsP)
  | g => prA g
theorem knownB : Known ro25 prB := by
  intro g p h
  unfold prB at h
  split at h
  · cases h; exact pure_ok (six_of fs_check) (has_fn (by kernel_rfl))
  · cases h; exact pure_ok (six_of fs_rcheck) (has_fn (by kernel_rfl))
  · cases h; exact nums_ok
  · exact knownA _ p h
end Go.Proofs.YtemjnfncncmbdaaDoor.AE
namespace Go.Proofs.YtemjnfncncmbdaaDoor.AE
open Go.RowKit Oc
theorem t_put (f : Nat → Int) (Φ : AV → Prop) : callK ro25 (fun _ => false) prB 10 6 [req f] (hp [] []) (fun r h => some (h.cd ∧ Φ r)) =
    (bif ((chk25 (six [(f (0 : Nat)), (f (1 : Nat)), (f (2 : Nat)), (f (3 : Nat)), (f (4 : Nat)), (f (5 : Nat)), (f (6 : Nat))])) != (0 : Int)) then (some (True ∧ (Φ (AV.v (Value.tuple #[(Value.string (ByteArray.mk (Array.mk (@List.nil UInt8)))), (Value.int IntKind.i64 (chk25 (six [(f (0 : Nat)), (f (1 : Nat)), (f (2 : Nat)), (f (3 : Nat)), (f (4 : Nat)), (f (5 : Nat)), (f (6 : Nat))])))]))))) else (some ((cdb (cdb (cdb (cdb (cdb (cdb True (decide ((ByteArray.size (putS (ByteArray.mk (Array.mk (@List.nil UInt8))) (f (0 : Nat)) (6 : Int))) ≤ (70368744177664 : Nat)))) (decide ((ByteArray.size (putS (putS (ByteArray.mk (Array.mk (@List.nil UInt8))) (f (0 : Nat)) (6 : Int)) (f (1 : Nat)) (1 : Int))) ≤ (70368744177664 : Nat)))) (decide ((ByteArray.size (putS (putS (putS (ByteArray.mk (Array.mk (@List.nil UInt8))) (f (0 : Nat)) (6 : Int)) (f (1 : Nat)) (1 : Int)) (IntKind.wrap IntKind.i64 ((f (2 : Nat)) + (1 : Int))) (1 : Int))) ≤ (70368744177664 : Nat)))) (decide ((ByteArray.size (putS (putS (putS (putS (ByteArray.mk (Array.mk (@List.nil UInt8))) (f (0 : Nat)) (6 : Int)) (f (1 : Nat)) (1 : Int)) (IntKind.wrap IntKind.i64 ((f (2 : Nat)) + (1 : Int))) (1 : Int)) (f (3 : Nat)) (1 : Int))) ≤ (70368744177664 : Nat)))) (decide ((ByteArray.size (putS (putS (putS (putS (putS (ByteArray.mk (Array.mk (@List.nil UInt8))) (f (0 : Nat)) (6 : Int)) (f (1 : Nat)) (1 : Int)) (IntKind.wrap IntKind.i64 ((f (2 : Nat)) + (1 : Int))) (1 : Int)) (f (3 : Nat)) (1 : Int)) (f (4 : Nat)) (1 : Int))) ≤ (70368744177664 : Nat)))) (decide ((ByteArray.size (putS (putS (putS (putS (putS (putS (ByteArray.mk (Array.mk (@List.nil UInt8))) (f (0 : Nat)) (6 : Int)) (f (1 : Nat)) (1 : Int)) (IntKind.wrap IntKind.i64 ((f (2 : Nat)) + (1 : Int))) (1 : Int)) (f (3 : Nat)) (1 : Int)) (f (4 : Nat)) (1 : Int)) (f (5 : Nat)) (4 : Int))) ≤ (70368744177664 : Nat)))) ∧ (Φ (AV.v (Value.tuple #[(Value.string (putS (putS (putS (putS (putS (putS (putS (ByteArray.mk (Array.mk (@List.nil UInt8))) (f (0 : Nat)) (6 : Int)) (f (1 : Nat)) (1 : Int)) (IntKind.wrap IntKind.i64 ((f (2 : Nat)) + (1 : Int))) (1 : Int)) (f (3 : Nat)) (1 : Int)) (f (4 : Nat)) (1 : Int)) (f (5 : Nat)) (4 : Int)) (f (6 : Nat)) (1 : Int))), (Value.int IntKind.i64 (0 : Int))])))))) := by kernel_rfl
theorem t_rput (f : Nat → Int) (Φ : AV → Prop) : callK ro25 (fun _ => false) prB 10 7 [req f] (hp [] []) (fun r h => some (h.cd ∧ Φ r)) =
    (bif ((chk25 (six [(f (0 : Nat)), (f (1 : Nat)), (f (2 : Nat)), (f (3 : Nat)), (f (4 : Nat)), (f (5 : Nat)), (f (6 : Nat))])) != (0 : Int)) then (some (True ∧ (Φ (AV.v (Value.tuple #[(Value.string (ByteArray.mk (Array.mk (@List.nil UInt8)))), (Value.int IntKind.i64 (1 : Int))]))))) else (some ((cdb (cdb (cdb (cdb (cdb (cdb (cdb (cdb (cdb (cdb (cdb (cdb (cdb (cdb True (decide ((f (0 : Nat)) ≤ (9223372036854775807 : Int)))) (decide (((0 : Nat) + (ByteArray.size (numStr (f (0 : Nat)) (6 : Int)))) ≤ (9223372036854775807 : Nat)))) (decide ((f (1 : Nat)) ≤ (9223372036854775807 : Int)))) (decide (((ByteArray.size ((ByteArray.mk (Array.mk (@List.nil UInt8))) ++ (numStr (f (0 : Nat)) (6 : Int)))) + (ByteArray.size (numStr (f (1 : Nat)) (1 : Int)))) ≤ (9223372036854775807 : Nat)))) (decide ((exInt (AV.v (Value.int IntKind.i64 (IntKind.wrap IntKind.i64 ((f (2 : Nat)) + (1 : Int)))))) ≤ (9223372036854775807 : Int)))) (decide (((ByteArray.size (((ByteArray.mk (Array.mk (@List.nil UInt8))) ++ (numStr (f (0 : Nat)) (6 : Int))) ++ (numStr (f (1 : Nat)) (1 : Int)))) + (ByteArray.size (numStr (exInt (AV.v (Value.int IntKind.i64 (IntKind.wrap IntKind.i64 ((f (2 : Nat)) + (1 : Int)))))) (1 : Int)))) ≤ (9223372036854775807 : Nat)))) (decide ((f (3 : Nat)) ≤ (9223372036854775807 : Int)))) (decide (((ByteArray.size ((((ByteArray.mk (Array.mk (@List.nil UInt8))) ++ (numStr (f (0 : Nat)) (6 : Int))) ++ (numStr (f (1 : Nat)) (1 : Int))) ++ (numStr (exInt (AV.v (Value.int IntKind.i64 (IntKind.wrap IntKind.i64 ((f (2 : Nat)) + (1 : Int)))))) (1 : Int)))) + (ByteArray.size (numStr (f (3 : Nat)) (1 : Int)))) ≤ (9223372036854775807 : Nat)))) (decide ((f (4 : Nat)) ≤ (9223372036854775807 : Int)))) (decide (((ByteArray.size (((((ByteArray.mk (Array.mk (@List.nil UInt8))) ++ (numStr (f (0 : Nat)) (6 : Int))) ++ (numStr (f (1 : Nat)) (1 : Int))) ++ (numStr (exInt (AV.v (Value.int IntKind.i64 (IntKind.wrap IntKind.i64 ((f (2 : Nat)) + (1 : Int)))))) (1 : Int))) ++ (numStr (f (3 : Nat)) (1 : Int)))) + (ByteArray.size (numStr (f (4 : Nat)) (1 : Int)))) ≤ (9223372036854775807 : Nat)))) (decide ((f (5 : Nat)) ≤ (9223372036854775807 : Int)))) (decide (((ByteArray.size ((((((ByteArray.mk (Array.mk (@List.nil UInt8))) ++ (numStr (f (0 : Nat)) (6 : Int))) ++ (numStr (f (1 : Nat)) (1 : Int))) ++ (numStr (exInt (AV.v (Value.int IntKind.i64 (IntKind.wrap IntKind.i64 ((f (2 : Nat)) + (1 : Int)))))) (1 : Int))) ++ (numStr (f (3 : Nat)) (1 : Int))) ++ (numStr (f (4 : Nat)) (1 : Int)))) + (ByteArray.size (numStr (f (5 : Nat)) (4 : Int)))) ≤ (9223372036854775807 : Nat)))) (decide ((f (6 : Nat)) ≤ (9223372036854775807 : Int)))) (decide (((ByteArray.size (((((((ByteArray.mk (Array.mk (@List.nil UInt8))) ++ (numStr (f (0 : Nat)) (6 : Int))) ++ (numStr (f (1 : Nat)) (1 : Int))) ++ (numStr (exInt (AV.v (Value.int IntKind.i64 (IntKind.wrap IntKind.i64 ((f (2 : Nat)) + (1 : Int)))))) (1 : Int))) ++ (numStr (f (3 : Nat)) (1 : Int))) ++ (numStr (f (4 : Nat)) (1 : Int))) ++ (numStr (f (5 : Nat)) (4 : Int)))) + (ByteArray.size (numStr (f (6 : Nat)) (1 : Int)))) ≤ (9223372036854775807 : Nat)))) ∧ (Φ (AV.v (Value.tuple #[(Value.string ((((((((ByteArray.mk (Array.mk (@List.nil UInt8))) ++ (numStr (f (0 : Nat)) (6 : Int))) ++ (numStr (f (1 : Nat)) (1 : Int))) ++ (numStr (exInt (AV.v (Value.int IntKind.i64 (IntKind.wrap IntKind.i64 ((f (2 : Nat)) + (1 : Int)))))) (1 : Int))) ++ (numStr (f (3 : Nat)) (1 : Int))) ++ (numStr (f (4 : Nat)) (1 : Int))) ++ (numStr (f (5 : Nat)) (4 : Int))) ++ (numStr (f (6 : Nat)) (1 : Int)))), (Value.int IntKind.i64 (0 : Int))])))))) := by kernel_rfl
theorem t_rget (s : ByteArray) (Φ : AV → Prop) : callK ro25 (fun _ => false) prB 10 13 [.v (.string s)] (hp [] []) (fun r h => some (h.cd ∧ Φ r)) =
    (bif (decide (((ByteArray.size s) : Int) < (15 : Int))) then (some (True ∧ (Φ (AV.v (Value.tuple #[(Value.agg #[(Value.int IntKind.i64 (0 : Int)), (Value.int IntKind.i64 (0 : Int)), (Value.int IntKind.i64 (0 : Int)), (Value.int IntKind.i64 (0 : Int)), (Value.int IntKind.i64 (0 : Int)), (Value.int IntKind.i64 (0 : Int)), (Value.int IntKind.i64 (0 : Int))]), (Value.int IntKind.i64 (3 : Int))]))))) else (bif (decide ((15 : Int) < ((ByteArray.size s) : Int))) then (some ((cdb True ((((true && (decide ((6 : Int) ≤ ((ByteArray.size s) : Int)))) && ((true && (decide ((1 : Int) ≤ ((ByteArray.size (Oc.takeR s (6 : Int))) : Int)))) && ((true && (decide ((1 : Int) ≤ ((ByteArray.size (Oc.takeR (Oc.takeR s (6 : Int)) (1 : Int))) : Int)))) && ((true && (decide ((1 : Int) ≤ ((ByteArray.size (Oc.takeR (Oc.takeR (Oc.takeR s (6 : Int)) (1 : Int)) (1 : Int))) : Int)))) && ((true && (decide ((1 : Int) ≤ ((ByteArray.size (Oc.takeR (Oc.takeR (Oc.takeR (Oc.takeR s (6 : Int)) (1 : Int)) (1 : Int)) (1 : Int))) : Int)))) && ((true && (decide ((4 : Int) ≤ ((ByteArray.size (Oc.takeR (Oc.takeR (Oc.takeR (Oc.takeR (Oc.takeR s (6 : Int)) (1 : Int)) (1 : Int)) (1 : Int)) (1 : Int))) : Int)))) && ((true && (decide ((1 : Int) ≤ ((ByteArray.size (Oc.takeR (Oc.takeR (Oc.takeR (Oc.takeR (Oc.takeR (Oc.takeR s (6 : Int)) (1 : Int)) (1 : Int)) (1 : Int)) (1 : Int)) (4 : Int))) : Int)))) && true))))))) && (decide ((ByteArray.size s) ≤ (9223372036854775807 : Nat)))) && true)) ∧ (Φ (AV.v (Value.tuple #[(Value.agg #[(Value.int IntKind.i64 (0 : Int)), (Value.int IntKind.i64 (0 : Int)), (Value.int IntKind.i64 (0 : Int)), (Value.int IntKind.i64 (0 : Int)), (Value.int IntKind.i64 (0 : Int)), (Value.int IntKind.i64 (0 : Int)), (Value.int IntKind.i64 (0 : Int))]), (Value.int IntKind.i64 (2 : Int))]))))) else (bif ((chk25 (six [(exInt (AV.v (Value.int IntKind.i64 (Oc.takeN s (6 : Int))))), (exInt (AV.v (Value.int IntKind.i64 (Oc.takeN (Oc.takeR s (6 : Int)) (1 : Int))))), (IntKind.wrap IntKind.i64 ((exInt (AV.v (Value.int IntKind.i64 (Oc.takeN (Oc.takeR (Oc.takeR s (6 : Int)) (1 : Int)) (1 : Int))))) - (1 : Int))), (exInt (AV.v (Value.int IntKind.i64 (Oc.takeN (Oc.takeR (Oc.takeR (Oc.takeR s (6 : Int)) (1 : Int)) (1 : Int)) (1 : Int))))), (exInt (AV.v (Value.int IntKind.i64 (Oc.takeN (Oc.takeR (Oc.takeR (Oc.takeR (Oc.takeR s (6 : Int)) (1 : Int)) (1 : Int)) (1 : Int)) (1 : Int))))), (exInt (AV.v (Value.int IntKind.i64 (Oc.takeN (Oc.takeR (Oc.takeR (Oc.takeR (Oc.takeR (Oc.takeR s (6 : Int)) (1 : Int)) (1 : Int)) (1 : Int)) (1 : Int)) (4 : Int))))), (exInt (AV.v (Value.int IntKind.i64 (Oc.takeN (Oc.takeR (Oc.takeR (Oc.takeR (Oc.takeR (Oc.takeR (Oc.takeR s (6 : Int)) (1 : Int)) (1 : Int)) (1 : Int)) (1 : Int)) (4 : Int)) (1 : Int)))))])) != (0 : Int)) then (some ((cdb True ((((true && (decide ((6 : Int) ≤ ((ByteArray.size s) : Int)))) && ((true && (decide ((1 : Int) ≤ ((ByteArray.size (Oc.takeR s (6 : Int))) : Int)))) && ((true && (decide ((1 : Int) ≤ ((ByteArray.size (Oc.takeR (Oc.takeR s (6 : Int)) (1 : Int))) : Int)))) && ((true && (decide ((1 : Int) ≤ ((ByteArray.size (Oc.takeR (Oc.takeR (Oc.takeR s (6 : Int)) (1 : Int)) (1 : Int))) : Int)))) && ((true && (decide ((1 : Int) ≤ ((ByteArray.size (Oc.takeR (Oc.takeR (Oc.takeR (Oc.takeR s (6 : Int)) (1 : Int)) (1 : Int)) (1 : Int))) : Int)))) && ((true && (decide ((4 : Int) ≤ ((ByteArray.size (Oc.takeR (Oc.takeR (Oc.takeR (Oc.takeR (Oc.takeR s (6 : Int)) (1 : Int)) (1 : Int)) (1 : Int)) (1 : Int))) : Int)))) && ((true && (decide ((1 : Int) ≤ ((ByteArray.size (Oc.takeR (Oc.takeR (Oc.takeR (Oc.takeR (Oc.takeR (Oc.takeR s (6 : Int)) (1 : Int)) (1 : Int)) (1 : Int)) (1 : Int)) (4 : Int))) : Int)))) && true))))))) && (decide ((ByteArray.size s) ≤ (9223372036854775807 : Nat)))) && true)) ∧ (Φ (AV.v (Value.tuple #[(Value.agg #[(Value.int IntKind.i64 (0 : Int)), (Value.int IntKind.i64 (0 : Int)), (Value.int IntKind.i64 (0 : Int)), (Value.int IntKind.i64 (0 : Int)), (Value.int IntKind.i64 (0 : Int)), (Value.int IntKind.i64 (0 : Int)), (Value.int IntKind.i64 (0 : Int))]), (Value.int IntKind.i64 (2 : Int))]))))) else (some ((cdb True ((((true && (decide ((6 : Int) ≤ ((ByteArray.size s) : Int)))) && ((true && (decide ((1 : Int) ≤ ((ByteArray.size (Oc.takeR s (6 : Int))) : Int)))) && ((true && (decide ((1 : Int) ≤ ((ByteArray.size (Oc.takeR (Oc.takeR s (6 : Int)) (1 : Int))) : Int)))) && ((true && (decide ((1 : Int) ≤ ((ByteArray.size (Oc.takeR (Oc.takeR (Oc.takeR s (6 : Int)) (1 : Int)) (1 : Int))) : Int)))) && ((true && (decide ((1 : Int) ≤ ((ByteArray.size (Oc.takeR (Oc.takeR (Oc.takeR (Oc.takeR s (6 : Int)) (1 : Int)) (1 : Int)) (1 : Int))) : Int)))) && ((true && (decide ((4 : Int) ≤ ((ByteArray.size (Oc.takeR (Oc.takeR (Oc.takeR (Oc.takeR (Oc.takeR s (6 : Int)) (1 : Int)) (1 : Int)) (1 : Int)) (1 : Int))) : Int)))) && ((true && (decide ((1 : Int) ≤ ((ByteArray.size (Oc.takeR (Oc.takeR (Oc.takeR (Oc.takeR (Oc.takeR (Oc.takeR s (6 : Int)) (1 : Int)) (1 : Int)) (1 : Int)) (1 : Int)) (4 : Int))) : Int)))) && true))))))) && (decide ((ByteArray.size s) ≤ (9223372036854775807 : Nat)))) && true)) ∧ (Φ (AV.v (Value.tuple #[(Value.agg #[(Value.int IntKind.i64 (exInt (AV.v (Value.int IntKind.i64 (Oc.takeN s (6 : Int)))))), (Value.int IntKind.i64 (exInt (AV.v (Value.int IntKind.i64 (Oc.takeN (Oc.takeR s (6 : Int)) (1 : Int)))))), (Value.int IntKind.i64 (IntKind.wrap IntKind.i64 ((exInt (AV.v (Value.int IntKind.i64 (Oc.takeN (Oc.takeR (Oc.takeR s (6 : Int)) (1 : Int)) (1 : Int))))) - (1 : Int)))), (Value.int IntKind.i64 (exInt (AV.v (Value.int IntKind.i64 (Oc.takeN (Oc.takeR (Oc.takeR (Oc.takeR s (6 : Int)) (1 : Int)) (1 : Int)) (1 : Int)))))), (Value.int IntKind.i64 (exInt (AV.v (Value.int IntKind.i64 (Oc.takeN (Oc.takeR (Oc.takeR (Oc.takeR (Oc.takeR s (6 : Int)) (1 : Int)) (1 : Int)) (1 : Int)) (1 : Int)))))), (Value.int IntKind.i64 (exInt (AV.v (Value.int IntKind.i64 (Oc.takeN (Oc.takeR (Oc.takeR (Oc.takeR (Oc.takeR (Oc.takeR s (6 : Int)) (1 : Int)) (1 : Int)) (1 : Int)) (1 : Int)) (4 : Int)))))), (Value.int IntKind.i64 (exInt (AV.v (Value.int IntKind.i64 (Oc.takeN (Oc.takeR (Oc.takeR (Oc.takeR (Oc.takeR (Oc.takeR (Oc.takeR s (6 : Int)) (1 : Int)) (1 : Int)) (1 : Int)) (1 : Int)) (4 : Int)) (1 : Int))))))]), (Value.int IntKind.i64 (0 : Int))])))))))) := by kernel_rfl
end Go.Proofs.YtemjnfncncmbdaaDoor.AE
namespace Go.Proofs.YtemjnfncncmbdaaDoor.AE
open Go.RowKit Oc
/-! Takes. -/
theorem take_ok_of {r : ByteArray} {m : Int} (h : (takeE r m != 0) = false) (h1 : 1 ≤ m) (h2 : m ≤ 6) : m ≤ r.size ∧ ((takeR r m).size : Int) = r.size - m := by
  have h : takeE r m = 0 := by simpa using h
  unfold takeE at h
  rw [if_neg (by omega)] at h
  split at h
  · cases h
  · rename_i hlt
    have hin : inT r m = true := by simp only [inT, Bool.and_eq_true, decide_eq_true_eq]; omega
    refine ⟨by omega, ?_⟩
    rw [takeR, if_pos hin, ByteArray.size_extract]
    omega
theorem take_bad_of {r : ByteArray} {m : Int} (h : (takeE r m != 0) = true) (h1 : 1 ≤ m) (h2 : m ≤ 6) : takeE r m = 3 ∧ (r.size : Int) < m := by
  have h : takeE r m ≠ 0 := by simpa using h
  unfold takeE at h ⊢
  rw [if_neg (by omega)] at h ⊢
  split at h
  · rename_i hlt; rw [if_pos hlt]; exact ⟨rfl, hlt⟩
  · exact absurd rfl h
theorem takeR_size {r : ByteArray} {m : Int} (h1 : 1 ≤ m) (h2 : m ≤ 6) (h : m ≤ r.size) : ((takeR r m).size : Int) = r.size - m := by
  have hin : inT r m = true := by simp only [inT, Bool.and_eq_true, decide_eq_true_eq]; omega
  rw [takeR, if_pos hin, ByteArray.size_extract]
  omega
def w25 : List Int := [6, 1, 1, 1, 1, 4, 1]
def vals25 (s : ByteArray) : Nat → Int := six [(numsOf w25 s).getD 0 0, (numsOf w25 s).getD 1 0, IntKind.wrap .i64 ((numsOf w25 s).getD 2 0 - 1), (numsOf w25 s).getD 3 0, (numsOf w25 s).getD 4 0, (numsOf w25 s).getD 5 0, (numsOf w25 s).getD 6 0]
def getE (s : ByteArray) : Int := if s.size < 15 then 3 else if 15 < s.size ∨ chk25 (vals25 s) ≠ 0 then 2 else 0
def getN (s : ByteArray) : Nat → Int := if getE s = 0 then vals25 s else fun _ => 0
def reqV (f : Nat → Int) : Value := .agg #[.int .i64 (f 0), .int .i64 (f 1), .int .i64 (f 2), .int .i64 (f 3), .int .i64 (f 4), .int .i64 (f 5), .int .i64 (f 6)]
def getV (s : ByteArray) : Value := .tuple #[reqV (getN s), .int .i64 (getE s)]
theorem get_err {s : ByteArray} {e : Int} (h : getE s = e) (hne : e ≠ 0) : AV.v (.tuple #[reqV fun _ => 0, .int .i64 e]) = AV.v (getV s) := by
  unfold getV getN
  rw [h, if_neg hne]
theorem get_good {s : ByteArray} (h : getE s = 0) : AV.v (.tuple #[reqV (vals25 s), .int .i64 0]) = AV.v (getV s) := by
  unfold getV getN
  rw [h, if_pos rfl]
theorem e3 {s : ByteArray} (h : (s.size : Int) < 15) : getE s = 3 := by unfold getE; rw [if_pos (by omega)]
theorem e2 {s : ByteArray} (h : (15 : Int) ≤ s.size) (h2 : (15 : Int) < s.size ∨ chk25 (vals25 s) ≠ 0) : getE s = 2 := by
  unfold getE; rw [if_neg (by omega), if_pos (by rcases h2 with h2 | h2; exact .inl (by omega); exact .inr h2)]
theorem e0 {s : ByteArray} (h : (s.size : Int) = 15) (h2 : chk25 (vals25 s) = 0) : getE s = 0 := by
  unfold getE; rw [if_neg (by omega), if_neg (by rintro (h3 | h3); omega; exact h3 h2)]
theorem en25 {s : ByteArray} (h : (15 : Int) ≤ s.size) : enough w25 s = true := by
  have t := fun (r : ByteArray) (m : Int) (h1 : 1 ≤ m) (h2 : m ≤ 6) (h : m ≤ r.size) => (show inT r m = true by simp only [inT, Bool.and_eq_true, decide_eq_true_eq]; omega)
  obtain ⟨s1, q1⟩ : ∃ x, x = takeR s 6 := ⟨_, rfl⟩
  obtain ⟨s2, q2⟩ : ∃ x, x = takeR s1 1 := ⟨_, rfl⟩
  obtain ⟨s3, q3⟩ : ∃ x, x = takeR s2 1 := ⟨_, rfl⟩
  obtain ⟨s4, q4⟩ : ∃ x, x = takeR s3 1 := ⟨_, rfl⟩
  obtain ⟨s5, q5⟩ : ∃ x, x = takeR s4 1 := ⟨_, rfl⟩
  obtain ⟨s6, q6⟩ : ∃ x, x = takeR s5 4 := ⟨_, rfl⟩
  obtain ⟨s7, q7⟩ : ∃ x, x = takeR s6 1 := ⟨_, rfl⟩
  have a0 := @takeR_size s 6 (by decide) (by decide) (by omega)
  rw [← q1] at a0
  have a1 := @takeR_size s1 1 (by decide) (by decide) (by omega)
  rw [← q2] at a1
  have a2 := @takeR_size s2 1 (by decide) (by decide) (by omega)
  rw [← q3] at a2
  have a3 := @takeR_size s3 1 (by decide) (by decide) (by omega)
  rw [← q4] at a3
  have a4 := @takeR_size s4 1 (by decide) (by decide) (by omega)
  rw [← q5] at a4
  have a5 := @takeR_size s5 4 (by decide) (by decide) (by omega)
  rw [← q6] at a5
  have a6 := @takeR_size s6 1 (by decide) (by decide) (by omega)
  rw [← q7] at a6
  simp only [w25, enough, Bool.and_eq_true, and_true]
  rw [← q1, ← q2, ← q3, ← q4, ← q5, ← q6]
  refine ⟨t _ _ (by decide) (by decide) (by omega), t _ _ (by decide) (by decide) (by omega), t _ _ (by decide) (by decide) (by omega), t _ _ (by decide) (by decide) (by omega), t _ _ (by decide) (by decide) (by omega), t _ _ (by decide) (by decide) (by omega), t _ _ (by decide) (by decide) (by omega)⟩
theorem fs_rget (s : ByteArray) (hs : s.size ≤ maxLen) : Fs Tryd.prog ro25 13 [.v (.string s)] (hp [] []) fun r _ => r = .v (getV s) := by
  refine Fs.of_call knownB (t_rget s _) ?_
  have cd : (15 : Int) ≤ s.size → (enough w25 s && decide (s.size ≤ maxLen) && true) = true := fun h => by rw [en25 h, decide_eq_true hs]; rfl
  refine holds_bif (fun h => ?_) (fun h => ?_)
  · exact ⟨trivial, get_err (e3 (of_decide_eq_true h)) (by decide)⟩
  have h := of_decide_eq_false h
  have h14 : (15 : Int) ≤ s.size := by omega
  refine holds_bif (fun h2 => ?_) (fun h2 => ?_)
  · exact ⟨cdb_iff.2 ⟨trivial, cd h14⟩, get_err (e2 h14 (.inl (of_decide_eq_true h2))) (by decide)⟩
  have h2 := of_decide_eq_false h2
  refine holds_bif (fun h3 => ?_) (fun h3 => ?_)
  · have h3 : (chk25 (vals25 s) != 0) = true := Eq.trans (by kernel_rfl) h3
    exact ⟨cdb_iff.2 ⟨trivial, cd h14⟩, get_err (e2 h14 (.inr (by simpa using h3))) (by decide)⟩
  · have h3 : (chk25 (vals25 s) != 0) = false := Eq.trans (by kernel_rfl) h3
    refine ⟨cdb_iff.2 ⟨trivial, cd h14⟩, ?_⟩
    rw [← get_good (e0 (by omega) (by simpa using h3))]
    kernel_rfl
end Go.Proofs.YtemjnfncncmbdaaDoor.AE
namespace Go.Proofs.YtemjnfncncmbdaaDoor.AE
open Go.RowKit Oc
/-! Bodies. -/
def bytes25 (f : Nat → Int) : List UInt8 := be 6 (f 0).toNat ++ be 1 (f 1).toNat ++ be 1 (f 2 + 1).toNat ++ be 1 (f 3).toNat ++ be 1 (f 4).toNat ++ be 4 (f 5).toNat ++ be 1 (f 6).toNat
def putR (f : Nat → Int) : ByteArray := if okP f then ⟨(bytes25 f).toArray⟩ else ⟨#[]⟩
def putV (f : Nat → Int) : Value := .tuple #[.string (putR f), .int .i64 (chk25 f)]
theorem fits_of {n m : Int} (h1 : 1 ≤ m) (h2 : m ≤ 6) (h3 : 0 ≤ n) (h4 : n < 256 ^ m.toNat) : fits n m = true := by
  simp only [fits, Bool.and_eq_true, decide_eq_true_eq]; exact ⟨⟨⟨h1, h2⟩, h3⟩, h4⟩
theorem putS_mk {l : List UInt8} {n m : Int} (h : fits n m = true) : putS ⟨l.toArray⟩ n m = ⟨(l ++ be m.toNat n.toNat).toArray⟩ := by
  unfold putS; rw [if_pos h]
theorem num_mk {n m : Int} (h : fits n m = true) : numStr n m = ⟨(be m.toNat n.toNat).toArray⟩ := by
  simp only [fits, Bool.and_eq_true, decide_eq_true_eq] at h
  unfold numStr; rw [if_neg (by omega)]
theorem mk_app (l t : List UInt8) : (⟨l.toArray⟩ : ByteArray) ++ ⟨t.toArray⟩ = ⟨(l ++ t).toArray⟩ := by
  apply ByteArray.ext; simp
theorem mk_size (l : List UInt8) : (⟨l.toArray⟩ : ByteArray).size = l.length := by simp [ByteArray.size]
theorem fits25 {f : Nat → Int} (h : okP f) : fits (f 0) 6 = true ∧ fits (f 1) 1 = true ∧ fits (f 2 + 1) 1 = true ∧ fits (f 3) 1 = true ∧ fits (f 4) 1 = true ∧ fits (f 5) 4 = true ∧ fits (f 6) 1 = true := by
  obtain ⟨a0, b0, a1, b1, a2, b2, _, a3, b3, a4, b4, a5, b5, a6, b6⟩ := h
  refine ⟨fits_of (by decide) (by decide) (by omega) ?_, fits_of (by decide) (by decide) (by omega) ?_, fits_of (by decide) (by decide) (by omega) ?_, fits_of (by decide) (by decide) (by omega) ?_, fits_of (by decide) (by decide) (by omega) ?_, fits_of (by decide) (by decide) (by omega) ?_, fits_of (by decide) (by decide) (by omega) ?_⟩
  all_goals (simp; omega)
theorem exInt_v (k : IntKind) (n : Int) : exInt (AV.v (.int k n)) = n := rfl
theorem wr1 {f : Nat → Int} (h : okP f) : IntKind.wrap .i64 (f 2 + 1) = f 2 + 1 := by
  obtain ⟨a0, b0, a1, b1, a2, b2, _⟩ := h
  rw [IntKind.wrap_i64]; omega
theorem put_bad {f : Nat → Int} (h : ¬ okP f) : AV.v (.tuple #[.string ⟨#[]⟩, .int .i64 1]) = AV.v (putV f) := by
  unfold putV putR chk25; rw [if_neg h, decide_eq_false h]; rfl
theorem put_good {f : Nat → Int} (h : okP f) : AV.v (.tuple #[.string ⟨(bytes25 f).toArray⟩, .int .i64 0]) = AV.v (putV f) := by
  unfold putV putR chk25; rw [if_pos h, decide_eq_true h]; rfl
theorem chk_ok {f : Nat → Int} (h : (chk25 f != 0) = false) : okP f := by
  unfold chk25 at h
  by_cases hok : okP f
  · exact hok
  · rw [decide_eq_false hok] at h; cases h
theorem chk_bad {f : Nat → Int} (h : (chk25 f != 0) = true) : ¬ okP f := fun hok => by
  unfold chk25 at h; rw [decide_eq_true hok] at h; cases h
theorem fs_put (f : Nat → Int) : Fs Tryd.prog ro25 6 [req f] (hp [] []) fun r _ => r = .v (putV f) := by
  refine Fs.of_call knownB (t_put f _) ?_
  refine holds_bif (fun h => ?_) (fun h => ?_)
  · have h : (chk25 f != 0) = true := Eq.trans (by kernel_rfl) h
    refine ⟨trivial, ?_⟩
    rw [← put_bad (chk_bad h)]
    have hc : chk25 f = 1 := by unfold chk25; rw [decide_eq_false (chk_bad h)]; rfl
    show AV.v (.tuple #[.string ⟨#[]⟩, .int .i64 (chk25 f)]) = _
    rw [hc]
  · have h : (chk25 f != 0) = false := Eq.trans (by kernel_rfl) h
    have hok := chk_ok h
    obtain ⟨g0, g1, g2, g3, g4, g5, g6⟩ := fits25 hok
    have e0 : (ByteArray.mk (Array.mk (@List.nil UInt8))) = ⟨([] : List UInt8).toArray⟩ := rfl
    rw [e0]
    simp only [exInt_v, wr1 hok, putS_mk g0, putS_mk g1, putS_mk g2, putS_mk g3, putS_mk g4, putS_mk g5, putS_mk g6, mk_size]
    refine ⟨?_, put_good hok⟩
    repeat' first
      | with_reducible exact trivial
      | with_reducible refine cdb_iff.2 ⟨?_, ?_⟩
    all_goals (refine decide_eq_true ?_; simp [be_length])
theorem fs_rput (f : Nat → Int) : Fs Tryd.prog ro25 7 [req f] (hp [] []) fun r _ => r = .v (putV f) := by
  refine Fs.of_call knownB (t_rput f _) ?_
  refine holds_bif (fun h => ?_) (fun h => ?_)
  · have h : (chk25 f != 0) = true := Eq.trans (by kernel_rfl) h
    exact ⟨trivial, put_bad (chk_bad h)⟩
  · have h : (chk25 f != 0) = false := Eq.trans (by kernel_rfl) h
    have hok := chk_ok h
    obtain ⟨g0, g1, g2, g3, g4, g5, g6⟩ := fits25 hok
    have e0 : (ByteArray.mk (Array.mk (@List.nil UInt8))) = ⟨([] : List UInt8).toArray⟩ := rfl
    rw [e0]
    simp only [exInt_v, wr1 hok, num_mk g0, num_mk g1, num_mk g2, num_mk g3, num_mk g4, num_mk g5, num_mk g6, mk_app, mk_size, List.nil_append, show (6 : Int).toNat = 6 from rfl, show (1 : Int).toNat = 1 from rfl, show (4 : Int).toNat = 4 from rfl]
    refine ⟨?_, by have hg := put_good hok; unfold bytes25 at hg; exact hg⟩
    obtain ⟨a0, b0, a1, b1, a2, b2, _, a3, b3, a4, b4, a5, b5, a6, b6⟩ := hok
    repeat' first
      | with_reducible exact trivial
      | with_reducible refine cdb_iff.2 ⟨?_, ?_⟩
    all_goals (refine decide_eq_true ?_; first | omega | simp [be_length])
end Go.Proofs.YtemjnfncncmbdaaDoor.AE
namespace Go.Proofs.YtemjnfncncmbdaaDoor.AE
open Go.RowKit Oc
def gZ : List AV := List.replicate 7 (.v (.int .i64 0))
def gH : AH := hp [(23, gZ), (26, [.v (.int .i64 0)])] []
def gA (s : ByteArray) : List AV := [.v (.string s), .dead, .ptr 0 0, .ptr 1 0, .dead, .fn (.func 22) [] [.ptr 0 0, .ptr 1 0]] ++ List.replicate 14 .dead
theorem g_x (s : ByteArray) (R : Exit → List AV → AH → Prop) : code ro25 (fun _ => false) prB 8 (sub (bodyOf 12) [0]) ([.v (.string s)] ++ List.replicate 19 (.v undef)) (hp [] []) (kp [0, 2, 3] R) =
    (some (True ∧ (R Exit.normal [(AV.v (Value.string s)), AV.dead, (AV.ptr (0 : Nat) (0 : Nat)), (AV.ptr (1 : Nat) (0 : Nat)), AV.dead, AV.dead, AV.dead, AV.dead, AV.dead, AV.dead, AV.dead, AV.dead, AV.dead, AV.dead, AV.dead, AV.dead, AV.dead, AV.dead, AV.dead, AV.dead] (AH.mk [((23 : Nat), [(AV.v (Value.int IntKind.i64 (0 : Int))), (AV.v (Value.int IntKind.i64 (0 : Int))), (AV.v (Value.int IntKind.i64 (0 : Int))), (AV.v (Value.int IntKind.i64 (0 : Int))), (AV.v (Value.int IntKind.i64 (0 : Int))), (AV.v (Value.int IntKind.i64 (0 : Int))), (AV.v (Value.int IntKind.i64 (0 : Int)))]), ((26 : Nat), [(AV.v (Value.int IntKind.i64 (0 : Int)))])] (@List.nil Nat) (0 : Nat) (0 : Nat) true (@List.nil (Prod Nat Bool)) True)))) := by kernel_rfl
theorem g_y (s : ByteArray) (R : Exit → List AV → AH → Prop) : code ro25 (fun _ => false) prB 10 (sub (bodyOf 12) [1, 1]) (gA s) gH (kp [2, 3] R) =
    (bif ((Oc.takeE s (6 : Int)) != (0 : Int)) then (some ((cdb True (decide ((ByteArray.size s) ≤ (9223372036854775807 : Nat)))) ∧ (R (Exit.panic [(Go.PanicEntry.mk (Value.iface (26 : Nat) (Value.int IntKind.i64 (Oc.takeE s (6 : Int)))) false false)]) [AV.dead, AV.dead, (AV.ptr (0 : Nat) (0 : Nat)), (AV.ptr (1 : Nat) (0 : Nat)), AV.dead, AV.dead, AV.dead, AV.dead, AV.dead, AV.dead, AV.dead, AV.dead, AV.dead, AV.dead, AV.dead, AV.dead, AV.dead, AV.dead, AV.dead, AV.dead] (AH.mk [((23 : Nat), [(AV.v (Value.int IntKind.i64 (0 : Int))), (AV.v (Value.int IntKind.i64 (0 : Int))), (AV.v (Value.int IntKind.i64 (0 : Int))), (AV.v (Value.int IntKind.i64 (0 : Int))), (AV.v (Value.int IntKind.i64 (0 : Int))), (AV.v (Value.int IntKind.i64 (0 : Int))), (AV.v (Value.int IntKind.i64 (0 : Int)))]), ((26 : Nat), [(AV.v (Value.int IntKind.i64 (0 : Int)))]), ((62 : Nat), [(AV.v (Value.string (Oc.takeR s (6 : Int))))]), ((23 : Nat), [(AV.v (Value.int IntKind.i64 (0 : Int))), (AV.v (Value.int IntKind.i64 (0 : Int))), (AV.v (Value.int IntKind.i64 (0 : Int))), (AV.v (Value.int IntKind.i64 (0 : Int))), (AV.v (Value.int IntKind.i64 (0 : Int))), (AV.v (Value.int IntKind.i64 (0 : Int))), (AV.v (Value.int IntKind.i64 (0 : Int)))]), ((44 : Nat), [(AV.v (Value.int IntKind.i64 (0 : Int))), (AV.v (Value.int IntKind.i64 (0 : Int))), (AV.v (Value.int IntKind.i64 (0 : Int))), (AV.v (Value.int IntKind.i64 (0 : Int))), (AV.v (Value.int IntKind.i64 (0 : Int))), (AV.v (Value.int IntKind.i64 (0 : Int))), (AV.v (Value.int IntKind.i64 (0 : Int)))])] (@List.nil Nat) (0 : Nat) (0 : Nat) true (@List.nil (Prod Nat Bool)) True)))) else (bif ((Oc.takeE (Oc.takeR s (6 : Int)) (1 : Int)) != (0 : Int)) then (some ((cdb (cdb True (decide ((ByteArray.size s) ≤ (9223372036854775807 : Nat)))) (decide ((ByteArray.size (Oc.takeR s (6 : Int))) ≤ (9223372036854775807 : Nat)))) ∧ (R (Exit.panic [(Go.PanicEntry.mk (Value.iface (26 : Nat) (Value.int IntKind.i64 (Oc.takeE (Oc.takeR s (6 : Int)) (1 : Int)))) false false)]) [AV.dead, AV.dead, (AV.ptr (0 : Nat) (0 : Nat)), (AV.ptr (1 : Nat) (0 : Nat)), AV.dead, AV.dead, AV.dead, AV.dead, AV.dead, AV.dead, AV.dead, AV.dead, AV.dead, AV.dead, AV.dead, AV.dead, AV.dead, AV.dead, AV.dead, AV.dead] (AH.mk [((23 : Nat), [(AV.v (Value.int IntKind.i64 (0 : Int))), (AV.v (Value.int IntKind.i64 (0 : Int))), (AV.v (Value.int IntKind.i64 (0 : Int))), (AV.v (Value.int IntKind.i64 (0 : Int))), (AV.v (Value.int IntKind.i64 (0 : Int))), (AV.v (Value.int IntKind.i64 (0 : Int))), (AV.v (Value.int IntKind.i64 (0 : Int)))]), ((26 : Nat), [(AV.v (Value.int IntKind.i64 (0 : Int)))]), ((62 : Nat), [(AV.v (Value.string (Oc.takeR (Oc.takeR s (6 : Int)) (1 : Int))))]), ((23 : Nat), [(AV.v (Value.int IntKind.i64 (0 : Int))), (AV.v (Value.int IntKind.i64 (0 : Int))), (AV.v (Value.int IntKind.i64 (0 : Int))), (AV.v (Value.int IntKind.i64 (0 : Int))), (AV.v (Value.int IntKind.i64 (0 : Int))), (AV.v (Value.int IntKind.i64 (0 : Int))), (AV.v (Value.int IntKind.i64 (0 : Int)))]), ((44 : Nat), [(AV.v (Value.int IntKind.i64 (Oc.takeN s (6 : Int)))), (AV.v (Value.int IntKind.i64 (0 : Int))), (AV.v (Value.int IntKind.i64 (0 : Int))), (AV.v (Value.int IntKind.i64 (0 : Int))), (AV.v (Value.int IntKind.i64 (0 : Int))), (AV.v (Value.int IntKind.i64 (0 : Int))), (AV.v (Value.int IntKind.i64 (0 : Int)))])] (@List.nil Nat) (0 : Nat) (0 : Nat) true (@List.nil (Prod Nat Bool)) True)))) else (bif ((Oc.takeE (Oc.takeR (Oc.takeR s (6 : Int)) (1 : Int)) (1 : Int)) != (0 : Int)) then (some ((cdb (cdb (cdb True (decide ((ByteArray.size s) ≤ (9223372036854775807 : Nat)))) (decide ((ByteArray.size (Oc.takeR s (6 : Int))) ≤ (9223372036854775807 : Nat)))) (decide ((ByteArray.size (Oc.takeR (Oc.takeR s (6 : Int)) (1 : Int))) ≤ (9223372036854775807 : Nat)))) ∧ (R (Exit.panic [(Go.PanicEntry.mk (Value.iface (26 : Nat) (Value.int IntKind.i64 (Oc.takeE (Oc.takeR (Oc.takeR s (6 : Int)) (1 : Int)) (1 : Int)))) false false)]) [AV.dead, AV.dead, (AV.ptr (0 : Nat) (0 : Nat)), (AV.ptr (1 : Nat) (0 : Nat)), AV.dead, AV.dead, AV.dead, AV.dead, AV.dead, AV.dead, AV.dead, AV.dead, AV.dead, AV.dead, AV.dead, AV.dead, AV.dead, AV.dead, AV.dead, AV.dead] (AH.mk [((23 : Nat), [(AV.v (Value.int IntKind.i64 (0 : Int))), (AV.v (Value.int IntKind.i64 (0 : Int))), (AV.v (Value.int IntKind.i64 (0 : Int))), (AV.v (Value.int IntKind.i64 (0 : Int))), (AV.v (Value.int IntKind.i64 (0 : Int))), (AV.v (Value.int IntKind.i64 (0 : Int))), (AV.v (Value.int IntKind.i64 (0 : Int)))]), ((26 : Nat), [(AV.v (Value.int IntKind.i64 (0 : Int)))]), ((62 : Nat), [(AV.v (Value.string (Oc.takeR (Oc.takeR (Oc.takeR s (6 : Int)) (1 : Int)) (1 : Int))))]), ((23 : Nat), [(AV.v (Value.int IntKind.i64 (0 : Int))), (AV.v (Value.int IntKind.i64 (0 : Int))), (AV.v (Value.int IntKind.i64 (0 : Int))), (AV.v (Value.int IntKind.i64 (0 : Int))), (AV.v (Value.int IntKind.i64 (0 : Int))), (AV.v (Value.int IntKind.i64 (0 : Int))), (AV.v (Value.int IntKind.i64 (0 : Int)))]), ((44 : Nat), [(AV.v (Value.int IntKind.i64 (Oc.takeN s (6 : Int)))), (AV.v (Value.int IntKind.i64 (Oc.takeN (Oc.takeR s (6 : Int)) (1 : Int)))), (AV.v (Value.int IntKind.i64 (0 : Int))), (AV.v (Value.int IntKind.i64 (0 : Int))), (AV.v (Value.int IntKind.i64 (0 : Int))), (AV.v (Value.int IntKind.i64 (0 : Int))), (AV.v (Value.int IntKind.i64 (0 : Int)))])] (@List.nil Nat) (0 : Nat) (0 : Nat) true (@List.nil (Prod Nat Bool)) True)))) else (bif ((Oc.takeE (Oc.takeR (Oc.takeR (Oc.takeR s (6 : Int)) (1 : Int)) (1 : Int)) (1 : Int)) != (0 : Int)) then (some ((cdb (cdb (cdb (cdb True (decide ((ByteArray.size s) ≤ (9223372036854775807 : Nat)))) (decide ((ByteArray.size (Oc.takeR s (6 : Int))) ≤ (9223372036854775807 : Nat)))) (decide ((ByteArray.size (Oc.takeR (Oc.takeR s (6 : Int)) (1 : Int))) ≤ (9223372036854775807 : Nat)))) (decide ((ByteArray.size (Oc.takeR (Oc.takeR (Oc.takeR s (6 : Int)) (1 : Int)) (1 : Int))) ≤ (9223372036854775807 : Nat)))) ∧ (R (Exit.panic [(Go.PanicEntry.mk (Value.iface (26 : Nat) (Value.int IntKind.i64 (Oc.takeE (Oc.takeR (Oc.takeR (Oc.takeR s (6 : Int)) (1 : Int)) (1 : Int)) (1 : Int)))) false false)]) [AV.dead, AV.dead, (AV.ptr (0 : Nat) (0 : Nat)), (AV.ptr (1 : Nat) (0 : Nat)), AV.dead, AV.dead, AV.dead, AV.dead, AV.dead, AV.dead, AV.dead, AV.dead, AV.dead, AV.dead, AV.dead, AV.dead, AV.dead, AV.dead, AV.dead, AV.dead] (AH.mk [((23 : Nat), [(AV.v (Value.int IntKind.i64 (0 : Int))), (AV.v (Value.int IntKind.i64 (0 : Int))), (AV.v (Value.int IntKind.i64 (0 : Int))), (AV.v (Value.int IntKind.i64 (0 : Int))), (AV.v (Value.int IntKind.i64 (0 : Int))), (AV.v (Value.int IntKind.i64 (0 : Int))), (AV.v (Value.int IntKind.i64 (0 : Int)))]), ((26 : Nat), [(AV.v (Value.int IntKind.i64 (0 : Int)))]), ((62 : Nat), [(AV.v (Value.string (Oc.takeR (Oc.takeR (Oc.takeR (Oc.takeR s (6 : Int)) (1 : Int)) (1 : Int)) (1 : Int))))]), ((23 : Nat), [(AV.v (Value.int IntKind.i64 (0 : Int))), (AV.v (Value.int IntKind.i64 (0 : Int))), (AV.v (Value.int IntKind.i64 (0 : Int))), (AV.v (Value.int IntKind.i64 (0 : Int))), (AV.v (Value.int IntKind.i64 (0 : Int))), (AV.v (Value.int IntKind.i64 (0 : Int))), (AV.v (Value.int IntKind.i64 (0 : Int)))]), ((44 : Nat), [(AV.v (Value.int IntKind.i64 (Oc.takeN s (6 : Int)))), (AV.v (Value.int IntKind.i64 (Oc.takeN (Oc.takeR s (6 : Int)) (1 : Int)))), (AV.v (Value.int IntKind.i64 (Oc.takeN (Oc.takeR (Oc.takeR s (6 : Int)) (1 : Int)) (1 : Int)))), (AV.v (Value.int IntKind.i64 (0 : Int))), (AV.v (Value.int IntKind.i64 (0 : Int))), (AV.v (Value.int IntKind.i64 (0 : Int))), (AV.v (Value.int IntKind.i64 (0 : Int)))])] (@List.nil Nat) (0 : Nat) (0 : Nat) true (@List.nil (Prod Nat Bool)) True)))) else (bif ((Oc.takeE (Oc.takeR (Oc.takeR (Oc.takeR (Oc.takeR s (6 : Int)) (1 : Int)) (1 : Int)) (1 : Int)) (1 : Int)) != (0 : Int)) then (some ((cdb (cdb (cdb (cdb (cdb True (decide ((ByteArray.size s) ≤ (9223372036854775807 : Nat)))) (decide ((ByteArray.size (Oc.takeR s (6 : Int))) ≤ (9223372036854775807 : Nat)))) (decide ((ByteArray.size (Oc.takeR (Oc.takeR s (6 : Int)) (1 : Int))) ≤ (9223372036854775807 : Nat)))) (decide ((ByteArray.size (Oc.takeR (Oc.takeR (Oc.takeR s (6 : Int)) (1 : Int)) (1 : Int))) ≤ (9223372036854775807 : Nat)))) (decide ((ByteArray.size (Oc.takeR (Oc.takeR (Oc.takeR (Oc.takeR s (6 : Int)) (1 : Int)) (1 : Int)) (1 : Int))) ≤ (9223372036854775807 : Nat)))) ∧ (R (Exit.panic [(Go.PanicEntry.mk (Value.iface (26 : Nat) (Value.int IntKind.i64 (Oc.takeE (Oc.takeR (Oc.takeR (Oc.takeR (Oc.takeR s (6 : Int)) (1 : Int)) (1 : Int)) (1 : Int)) (1 : Int)))) false false)]) [AV.dead, AV.dead, (AV.ptr (0 : Nat) (0 : Nat)), (AV.ptr (1 : Nat) (0 : Nat)), AV.dead, AV.dead, AV.dead, AV.dead, AV.dead, AV.dead, AV.dead, AV.dead, AV.dead, AV.dead, AV.dead, AV.dead, AV.dead, AV.dead, AV.dead, AV.dead] (AH.mk [((23 : Nat), [(AV.v (Value.int IntKind.i64 (0 : Int))), (AV.v (Value.int IntKind.i64 (0 : Int))), (AV.v (Value.int IntKind.i64 (0 : Int))), (AV.v (Value.int IntKind.i64 (0 : Int))), (AV.v (Value.int IntKind.i64 (0 : Int))), (AV.v (Value.int IntKind.i64 (0 : Int))), (AV.v (Value.int IntKind.i64 (0 : Int)))]), ((26 : Nat), [(AV.v (Value.int IntKind.i64 (0 : Int)))]), ((62 : Nat), [(AV.v (Value.string (Oc.takeR (Oc.takeR (Oc.takeR (Oc.takeR (Oc.takeR s (6 : Int)) (1 : Int)) (1 : Int)) (1 : Int)) (1 : Int))))]), ((23 : Nat), [(AV.v (Value.int IntKind.i64 (0 : Int))), (AV.v (Value.int IntKind.i64 (0 : Int))), (AV.v (Value.int IntKind.i64 (0 : Int))), (AV.v (Value.int IntKind.i64 (0 : Int))), (AV.v (Value.int IntKind.i64 (0 : Int))), (AV.v (Value.int IntKind.i64 (0 : Int))), (AV.v (Value.int IntKind.i64 (0 : Int)))]), ((44 : Nat), [(AV.v (Value.int IntKind.i64 (Oc.takeN s (6 : Int)))), (AV.v (Value.int IntKind.i64 (Oc.takeN (Oc.takeR s (6 : Int)) (1 : Int)))), (AV.v (Value.int IntKind.i64 (Oc.takeN (Oc.takeR (Oc.takeR s (6 : Int)) (1 : Int)) (1 : Int)))), (AV.v (Value.int IntKind.i64 (Oc.takeN (Oc.takeR (Oc.takeR (Oc.takeR s (6 : Int)) (1 : Int)) (1 : Int)) (1 : Int)))), (AV.v (Value.int IntKind.i64 (0 : Int))), (AV.v (Value.int IntKind.i64 (0 : Int))), (AV.v (Value.int IntKind.i64 (0 : Int)))])] (@List.nil Nat) (0 : Nat) (0 : Nat) true (@List.nil (Prod Nat Bool)) True)))) else (bif ((Oc.takeE (Oc.takeR (Oc.takeR (Oc.takeR (Oc.takeR (Oc.takeR s (6 : Int)) (1 : Int)) (1 : Int)) (1 : Int)) (1 : Int)) (4 : Int)) != (0 : Int)) then (some ((cdb (cdb (cdb (cdb (cdb (cdb True (decide ((ByteArray.size s) ≤ (9223372036854775807 : Nat)))) (decide ((ByteArray.size (Oc.takeR s (6 : Int))) ≤ (9223372036854775807 : Nat)))) (decide ((ByteArray.size (Oc.takeR (Oc.takeR s (6 : Int)) (1 : Int))) ≤ (9223372036854775807 : Nat)))) (decide ((ByteArray.size (Oc.takeR (Oc.takeR (Oc.takeR s (6 : Int)) (1 : Int)) (1 : Int))) ≤ (9223372036854775807 : Nat)))) (decide ((ByteArray.size (Oc.takeR (Oc.takeR (Oc.takeR (Oc.takeR s (6 : Int)) (1 : Int)) (1 : Int)) (1 : Int))) ≤ (9223372036854775807 : Nat)))) (decide ((ByteArray.size (Oc.takeR (Oc.takeR (Oc.takeR (Oc.takeR (Oc.takeR s (6 : Int)) (1 : Int)) (1 : Int)) (1 : Int)) (1 : Int))) ≤ (9223372036854775807 : Nat)))) ∧ (R (Exit.panic [(Go.PanicEntry.mk (Value.iface (26 : Nat) (Value.int IntKind.i64 (Oc.takeE (Oc.takeR (Oc.takeR (Oc.takeR (Oc.takeR (Oc.takeR s (6 : Int)) (1 : Int)) (1 : Int)) (1 : Int)) (1 : Int)) (4 : Int)))) false false)]) [AV.dead, AV.dead, (AV.ptr (0 : Nat) (0 : Nat)), (AV.ptr (1 : Nat) (0 : Nat)), AV.dead, AV.dead, AV.dead, AV.dead, AV.dead, AV.dead, AV.dead, AV.dead, AV.dead, AV.dead, AV.dead, AV.dead, AV.dead, AV.dead, AV.dead, AV.dead] (AH.mk [((23 : Nat), [(AV.v (Value.int IntKind.i64 (0 : Int))), (AV.v (Value.int IntKind.i64 (0 : Int))), (AV.v (Value.int IntKind.i64 (0 : Int))), (AV.v (Value.int IntKind.i64 (0 : Int))), (AV.v (Value.int IntKind.i64 (0 : Int))), (AV.v (Value.int IntKind.i64 (0 : Int))), (AV.v (Value.int IntKind.i64 (0 : Int)))]), ((26 : Nat), [(AV.v (Value.int IntKind.i64 (0 : Int)))]), ((62 : Nat), [(AV.v (Value.string (Oc.takeR (Oc.takeR (Oc.takeR (Oc.takeR (Oc.takeR (Oc.takeR s (6 : Int)) (1 : Int)) (1 : Int)) (1 : Int)) (1 : Int)) (4 : Int))))]), ((23 : Nat), [(AV.v (Value.int IntKind.i64 (0 : Int))), (AV.v (Value.int IntKind.i64 (0 : Int))), (AV.v (Value.int IntKind.i64 (0 : Int))), (AV.v (Value.int IntKind.i64 (0 : Int))), (AV.v (Value.int IntKind.i64 (0 : Int))), (AV.v (Value.int IntKind.i64 (0 : Int))), (AV.v (Value.int IntKind.i64 (0 : Int)))]), ((44 : Nat), [(AV.v (Value.int IntKind.i64 (Oc.takeN s (6 : Int)))), (AV.v (Value.int IntKind.i64 (Oc.takeN (Oc.takeR s (6 : Int)) (1 : Int)))), (AV.v (Value.int IntKind.i64 (Oc.takeN (Oc.takeR (Oc.takeR s (6 : Int)) (1 : Int)) (1 : Int)))), (AV.v (Value.int IntKind.i64 (Oc.takeN (Oc.takeR (Oc.takeR (Oc.takeR s (6 : Int)) (1 : Int)) (1 : Int)) (1 : Int)))), (AV.v (Value.int IntKind.i64 (Oc.takeN (Oc.takeR (Oc.takeR (Oc.takeR (Oc.takeR s (6 : Int)) (1 : Int)) (1 : Int)) (1 : Int)) (1 : Int)))), (AV.v (Value.int IntKind.i64 (0 : Int))), (AV.v (Value.int IntKind.i64 (0 : Int)))])] (@List.nil Nat) (0 : Nat) (0 : Nat) true (@List.nil (Prod Nat Bool)) True)))) else (bif ((Oc.takeE (Oc.takeR (Oc.takeR (Oc.takeR (Oc.takeR (Oc.takeR (Oc.takeR s (6 : Int)) (1 : Int)) (1 : Int)) (1 : Int)) (1 : Int)) (4 : Int)) (1 : Int)) != (0 : Int)) then (some ((cdb (cdb (cdb (cdb (cdb (cdb (cdb True (decide ((ByteArray.size s) ≤ (9223372036854775807 : Nat)))) (decide ((ByteArray.size (Oc.takeR s (6 : Int))) ≤ (9223372036854775807 : Nat)))) (decide ((ByteArray.size (Oc.takeR (Oc.takeR s (6 : Int)) (1 : Int))) ≤ (9223372036854775807 : Nat)))) (decide ((ByteArray.size (Oc.takeR (Oc.takeR (Oc.takeR s (6 : Int)) (1 : Int)) (1 : Int))) ≤ (9223372036854775807 : Nat)))) (decide ((ByteArray.size (Oc.takeR (Oc.takeR (Oc.takeR (Oc.takeR s (6 : Int)) (1 : Int)) (1 : Int)) (1 : Int))) ≤ (9223372036854775807 : Nat)))) (decide ((ByteArray.size (Oc.takeR (Oc.takeR (Oc.takeR (Oc.takeR (Oc.takeR s (6 : Int)) (1 : Int)) (1 : Int)) (1 : Int)) (1 : Int))) ≤ (9223372036854775807 : Nat)))) (decide ((ByteArray.size (Oc.takeR (Oc.takeR (Oc.takeR (Oc.takeR (Oc.takeR (Oc.takeR s (6 : Int)) (1 : Int)) (1 : Int)) (1 : Int)) (1 : Int)) (4 : Int))) ≤ (9223372036854775807 : Nat)))) ∧ (R (Exit.panic [(Go.PanicEntry.mk (Value.iface (26 : Nat) (Value.int IntKind.i64 (Oc.takeE (Oc.takeR (Oc.takeR (Oc.takeR (Oc.takeR (Oc.takeR (Oc.takeR s (6 : Int)) (1 : Int)) (1 : Int)) (1 : Int)) (1 : Int)) (4 : Int)) (1 : Int)))) false false)]) [AV.dead, AV.dead, (AV.ptr (0 : Nat) (0 : Nat)), (AV.ptr (1 : Nat) (0 : Nat)), AV.dead, AV.dead, AV.dead, AV.dead, AV.dead, AV.dead, AV.dead, AV.dead, AV.dead, AV.dead, AV.dead, AV.dead, AV.dead, AV.dead, AV.dead, AV.dead] (AH.mk [((23 : Nat), [(AV.v (Value.int IntKind.i64 (0 : Int))), (AV.v (Value.int IntKind.i64 (0 : Int))), (AV.v (Value.int IntKind.i64 (0 : Int))), (AV.v (Value.int IntKind.i64 (0 : Int))), (AV.v (Value.int IntKind.i64 (0 : Int))), (AV.v (Value.int IntKind.i64 (0 : Int))), (AV.v (Value.int IntKind.i64 (0 : Int)))]), ((26 : Nat), [(AV.v (Value.int IntKind.i64 (0 : Int)))]), ((62 : Nat), [(AV.v (Value.string (Oc.takeR (Oc.takeR (Oc.takeR (Oc.takeR (Oc.takeR (Oc.takeR (Oc.takeR s (6 : Int)) (1 : Int)) (1 : Int)) (1 : Int)) (1 : Int)) (4 : Int)) (1 : Int))))]), ((23 : Nat), [(AV.v (Value.int IntKind.i64 (0 : Int))), (AV.v (Value.int IntKind.i64 (0 : Int))), (AV.v (Value.int IntKind.i64 (0 : Int))), (AV.v (Value.int IntKind.i64 (0 : Int))), (AV.v (Value.int IntKind.i64 (0 : Int))), (AV.v (Value.int IntKind.i64 (0 : Int))), (AV.v (Value.int IntKind.i64 (0 : Int)))]), ((44 : Nat), [(AV.v (Value.int IntKind.i64 (Oc.takeN s (6 : Int)))), (AV.v (Value.int IntKind.i64 (Oc.takeN (Oc.takeR s (6 : Int)) (1 : Int)))), (AV.v (Value.int IntKind.i64 (Oc.takeN (Oc.takeR (Oc.takeR s (6 : Int)) (1 : Int)) (1 : Int)))), (AV.v (Value.int IntKind.i64 (Oc.takeN (Oc.takeR (Oc.takeR (Oc.takeR s (6 : Int)) (1 : Int)) (1 : Int)) (1 : Int)))), (AV.v (Value.int IntKind.i64 (Oc.takeN (Oc.takeR (Oc.takeR (Oc.takeR (Oc.takeR s (6 : Int)) (1 : Int)) (1 : Int)) (1 : Int)) (1 : Int)))), (AV.v (Value.int IntKind.i64 (Oc.takeN (Oc.takeR (Oc.takeR (Oc.takeR (Oc.takeR (Oc.takeR s (6 : Int)) (1 : Int)) (1 : Int)) (1 : Int)) (1 : Int)) (4 : Int)))), (AV.v (Value.int IntKind.i64 (0 : Int)))])] (@List.nil Nat) (0 : Nat) (0 : Nat) true (@List.nil (Prod Nat Bool)) True)))) else (bif (decide ((0 : Int) < ((ByteArray.size (Oc.takeR (Oc.takeR (Oc.takeR (Oc.takeR (Oc.takeR (Oc.takeR (Oc.takeR s (6 : Int)) (1 : Int)) (1 : Int)) (1 : Int)) (1 : Int)) (4 : Int)) (1 : Int))) : Int))) then (some ((cdb (cdb (cdb (cdb (cdb (cdb (cdb True (decide ((ByteArray.size s) ≤ (9223372036854775807 : Nat)))) (decide ((ByteArray.size (Oc.takeR s (6 : Int))) ≤ (9223372036854775807 : Nat)))) (decide ((ByteArray.size (Oc.takeR (Oc.takeR s (6 : Int)) (1 : Int))) ≤ (9223372036854775807 : Nat)))) (decide ((ByteArray.size (Oc.takeR (Oc.takeR (Oc.takeR s (6 : Int)) (1 : Int)) (1 : Int))) ≤ (9223372036854775807 : Nat)))) (decide ((ByteArray.size (Oc.takeR (Oc.takeR (Oc.takeR (Oc.takeR s (6 : Int)) (1 : Int)) (1 : Int)) (1 : Int))) ≤ (9223372036854775807 : Nat)))) (decide ((ByteArray.size (Oc.takeR (Oc.takeR (Oc.takeR (Oc.takeR (Oc.takeR s (6 : Int)) (1 : Int)) (1 : Int)) (1 : Int)) (1 : Int))) ≤ (9223372036854775807 : Nat)))) (decide ((ByteArray.size (Oc.takeR (Oc.takeR (Oc.takeR (Oc.takeR (Oc.takeR (Oc.takeR s (6 : Int)) (1 : Int)) (1 : Int)) (1 : Int)) (1 : Int)) (4 : Int))) ≤ (9223372036854775807 : Nat)))) ∧ (R (Exit.panic [(Go.PanicEntry.mk (Value.iface (26 : Nat) (Value.int IntKind.i64 (2 : Int))) false false)]) [AV.dead, AV.dead, (AV.ptr (0 : Nat) (0 : Nat)), (AV.ptr (1 : Nat) (0 : Nat)), AV.dead, AV.dead, AV.dead, AV.dead, AV.dead, AV.dead, AV.dead, AV.dead, AV.dead, AV.dead, AV.dead, AV.dead, AV.dead, AV.dead, AV.dead, AV.dead] (AH.mk [((23 : Nat), [(AV.v (Value.int IntKind.i64 (exInt (AV.v (Value.int IntKind.i64 (Oc.takeN s (6 : Int))))))), (AV.v (Value.int IntKind.i64 (exInt (AV.v (Value.int IntKind.i64 (Oc.takeN (Oc.takeR s (6 : Int)) (1 : Int))))))), (AV.v (Value.int IntKind.i64 (IntKind.wrap IntKind.i64 ((exInt (AV.v (Value.int IntKind.i64 (Oc.takeN (Oc.takeR (Oc.takeR s (6 : Int)) (1 : Int)) (1 : Int))))) - (1 : Int))))), (AV.v (Value.int IntKind.i64 (exInt (AV.v (Value.int IntKind.i64 (Oc.takeN (Oc.takeR (Oc.takeR (Oc.takeR s (6 : Int)) (1 : Int)) (1 : Int)) (1 : Int))))))), (AV.v (Value.int IntKind.i64 (exInt (AV.v (Value.int IntKind.i64 (Oc.takeN (Oc.takeR (Oc.takeR (Oc.takeR (Oc.takeR s (6 : Int)) (1 : Int)) (1 : Int)) (1 : Int)) (1 : Int))))))), (AV.v (Value.int IntKind.i64 (exInt (AV.v (Value.int IntKind.i64 (Oc.takeN (Oc.takeR (Oc.takeR (Oc.takeR (Oc.takeR (Oc.takeR s (6 : Int)) (1 : Int)) (1 : Int)) (1 : Int)) (1 : Int)) (4 : Int))))))), (AV.v (Value.int IntKind.i64 (exInt (AV.v (Value.int IntKind.i64 (Oc.takeN (Oc.takeR (Oc.takeR (Oc.takeR (Oc.takeR (Oc.takeR (Oc.takeR s (6 : Int)) (1 : Int)) (1 : Int)) (1 : Int)) (1 : Int)) (4 : Int)) (1 : Int)))))))]), ((26 : Nat), [(AV.v (Value.int IntKind.i64 (0 : Int)))]), ((62 : Nat), [(AV.v (Value.string (Oc.takeR (Oc.takeR (Oc.takeR (Oc.takeR (Oc.takeR (Oc.takeR (Oc.takeR s (6 : Int)) (1 : Int)) (1 : Int)) (1 : Int)) (1 : Int)) (4 : Int)) (1 : Int))))]), ((23 : Nat), [(AV.v (Value.int IntKind.i64 (exInt (AV.v (Value.int IntKind.i64 (Oc.takeN s (6 : Int))))))), (AV.v (Value.int IntKind.i64 (exInt (AV.v (Value.int IntKind.i64 (Oc.takeN (Oc.takeR s (6 : Int)) (1 : Int))))))), (AV.v (Value.int IntKind.i64 (IntKind.wrap IntKind.i64 ((exInt (AV.v (Value.int IntKind.i64 (Oc.takeN (Oc.takeR (Oc.takeR s (6 : Int)) (1 : Int)) (1 : Int))))) - (1 : Int))))), (AV.v (Value.int IntKind.i64 (exInt (AV.v (Value.int IntKind.i64 (Oc.takeN (Oc.takeR (Oc.takeR (Oc.takeR s (6 : Int)) (1 : Int)) (1 : Int)) (1 : Int))))))), (AV.v (Value.int IntKind.i64 (exInt (AV.v (Value.int IntKind.i64 (Oc.takeN (Oc.takeR (Oc.takeR (Oc.takeR (Oc.takeR s (6 : Int)) (1 : Int)) (1 : Int)) (1 : Int)) (1 : Int))))))), (AV.v (Value.int IntKind.i64 (exInt (AV.v (Value.int IntKind.i64 (Oc.takeN (Oc.takeR (Oc.takeR (Oc.takeR (Oc.takeR (Oc.takeR s (6 : Int)) (1 : Int)) (1 : Int)) (1 : Int)) (1 : Int)) (4 : Int))))))), (AV.v (Value.int IntKind.i64 (exInt (AV.v (Value.int IntKind.i64 (Oc.takeN (Oc.takeR (Oc.takeR (Oc.takeR (Oc.takeR (Oc.takeR (Oc.takeR s (6 : Int)) (1 : Int)) (1 : Int)) (1 : Int)) (1 : Int)) (4 : Int)) (1 : Int)))))))]), ((44 : Nat), [(AV.v (Value.int IntKind.i64 (Oc.takeN s (6 : Int)))), (AV.v (Value.int IntKind.i64 (Oc.takeN (Oc.takeR s (6 : Int)) (1 : Int)))), (AV.v (Value.int IntKind.i64 (Oc.takeN (Oc.takeR (Oc.takeR s (6 : Int)) (1 : Int)) (1 : Int)))), (AV.v (Value.int IntKind.i64 (Oc.takeN (Oc.takeR (Oc.takeR (Oc.takeR s (6 : Int)) (1 : Int)) (1 : Int)) (1 : Int)))), (AV.v (Value.int IntKind.i64 (Oc.takeN (Oc.takeR (Oc.takeR (Oc.takeR (Oc.takeR s (6 : Int)) (1 : Int)) (1 : Int)) (1 : Int)) (1 : Int)))), (AV.v (Value.int IntKind.i64 (Oc.takeN (Oc.takeR (Oc.takeR (Oc.takeR (Oc.takeR (Oc.takeR s (6 : Int)) (1 : Int)) (1 : Int)) (1 : Int)) (1 : Int)) (4 : Int)))), (AV.v (Value.int IntKind.i64 (Oc.takeN (Oc.takeR (Oc.takeR (Oc.takeR (Oc.takeR (Oc.takeR (Oc.takeR s (6 : Int)) (1 : Int)) (1 : Int)) (1 : Int)) (1 : Int)) (4 : Int)) (1 : Int))))])] (@List.nil Nat) (0 : Nat) (0 : Nat) true (@List.nil (Prod Nat Bool)) True)))) else (bif ((chk25 (six [(exInt (AV.v (Value.int IntKind.i64 (Oc.takeN s (6 : Int))))), (exInt (AV.v (Value.int IntKind.i64 (Oc.takeN (Oc.takeR s (6 : Int)) (1 : Int))))), (IntKind.wrap IntKind.i64 ((exInt (AV.v (Value.int IntKind.i64 (Oc.takeN (Oc.takeR (Oc.takeR s (6 : Int)) (1 : Int)) (1 : Int))))) - (1 : Int))), (exInt (AV.v (Value.int IntKind.i64 (Oc.takeN (Oc.takeR (Oc.takeR (Oc.takeR s (6 : Int)) (1 : Int)) (1 : Int)) (1 : Int))))), (exInt (AV.v (Value.int IntKind.i64 (Oc.takeN (Oc.takeR (Oc.takeR (Oc.takeR (Oc.takeR s (6 : Int)) (1 : Int)) (1 : Int)) (1 : Int)) (1 : Int))))), (exInt (AV.v (Value.int IntKind.i64 (Oc.takeN (Oc.takeR (Oc.takeR (Oc.takeR (Oc.takeR (Oc.takeR s (6 : Int)) (1 : Int)) (1 : Int)) (1 : Int)) (1 : Int)) (4 : Int))))), (exInt (AV.v (Value.int IntKind.i64 (Oc.takeN (Oc.takeR (Oc.takeR (Oc.takeR (Oc.takeR (Oc.takeR (Oc.takeR s (6 : Int)) (1 : Int)) (1 : Int)) (1 : Int)) (1 : Int)) (4 : Int)) (1 : Int)))))])) != (0 : Int)) then (some ((cdb (cdb (cdb (cdb (cdb (cdb (cdb True (decide ((ByteArray.size s) ≤ (9223372036854775807 : Nat)))) (decide ((ByteArray.size (Oc.takeR s (6 : Int))) ≤ (9223372036854775807 : Nat)))) (decide ((ByteArray.size (Oc.takeR (Oc.takeR s (6 : Int)) (1 : Int))) ≤ (9223372036854775807 : Nat)))) (decide ((ByteArray.size (Oc.takeR (Oc.takeR (Oc.takeR s (6 : Int)) (1 : Int)) (1 : Int))) ≤ (9223372036854775807 : Nat)))) (decide ((ByteArray.size (Oc.takeR (Oc.takeR (Oc.takeR (Oc.takeR s (6 : Int)) (1 : Int)) (1 : Int)) (1 : Int))) ≤ (9223372036854775807 : Nat)))) (decide ((ByteArray.size (Oc.takeR (Oc.takeR (Oc.takeR (Oc.takeR (Oc.takeR s (6 : Int)) (1 : Int)) (1 : Int)) (1 : Int)) (1 : Int))) ≤ (9223372036854775807 : Nat)))) (decide ((ByteArray.size (Oc.takeR (Oc.takeR (Oc.takeR (Oc.takeR (Oc.takeR (Oc.takeR s (6 : Int)) (1 : Int)) (1 : Int)) (1 : Int)) (1 : Int)) (4 : Int))) ≤ (9223372036854775807 : Nat)))) ∧ (R (Exit.panic [(Go.PanicEntry.mk (Value.iface (26 : Nat) (Value.int IntKind.i64 (2 : Int))) false false)]) [AV.dead, AV.dead, (AV.ptr (0 : Nat) (0 : Nat)), (AV.ptr (1 : Nat) (0 : Nat)), AV.dead, AV.dead, AV.dead, AV.dead, AV.dead, AV.dead, AV.dead, AV.dead, AV.dead, AV.dead, AV.dead, AV.dead, AV.dead, AV.dead, AV.dead, AV.dead] (AH.mk [((23 : Nat), [(AV.v (Value.int IntKind.i64 (exInt (AV.v (Value.int IntKind.i64 (Oc.takeN s (6 : Int))))))), (AV.v (Value.int IntKind.i64 (exInt (AV.v (Value.int IntKind.i64 (Oc.takeN (Oc.takeR s (6 : Int)) (1 : Int))))))), (AV.v (Value.int IntKind.i64 (IntKind.wrap IntKind.i64 ((exInt (AV.v (Value.int IntKind.i64 (Oc.takeN (Oc.takeR (Oc.takeR s (6 : Int)) (1 : Int)) (1 : Int))))) - (1 : Int))))), (AV.v (Value.int IntKind.i64 (exInt (AV.v (Value.int IntKind.i64 (Oc.takeN (Oc.takeR (Oc.takeR (Oc.takeR s (6 : Int)) (1 : Int)) (1 : Int)) (1 : Int))))))), (AV.v (Value.int IntKind.i64 (exInt (AV.v (Value.int IntKind.i64 (Oc.takeN (Oc.takeR (Oc.takeR (Oc.takeR (Oc.takeR s (6 : Int)) (1 : Int)) (1 : Int)) (1 : Int)) (1 : Int))))))), (AV.v (Value.int IntKind.i64 (exInt (AV.v (Value.int IntKind.i64 (Oc.takeN (Oc.takeR (Oc.takeR (Oc.takeR (Oc.takeR (Oc.takeR s (6 : Int)) (1 : Int)) (1 : Int)) (1 : Int)) (1 : Int)) (4 : Int))))))), (AV.v (Value.int IntKind.i64 (exInt (AV.v (Value.int IntKind.i64 (Oc.takeN (Oc.takeR (Oc.takeR (Oc.takeR (Oc.takeR (Oc.takeR (Oc.takeR s (6 : Int)) (1 : Int)) (1 : Int)) (1 : Int)) (1 : Int)) (4 : Int)) (1 : Int)))))))]), ((26 : Nat), [(AV.v (Value.int IntKind.i64 (0 : Int)))]), ((62 : Nat), [(AV.v (Value.string (Oc.takeR (Oc.takeR (Oc.takeR (Oc.takeR (Oc.takeR (Oc.takeR (Oc.takeR s (6 : Int)) (1 : Int)) (1 : Int)) (1 : Int)) (1 : Int)) (4 : Int)) (1 : Int))))]), ((23 : Nat), [(AV.v (Value.int IntKind.i64 (exInt (AV.v (Value.int IntKind.i64 (Oc.takeN s (6 : Int))))))), (AV.v (Value.int IntKind.i64 (exInt (AV.v (Value.int IntKind.i64 (Oc.takeN (Oc.takeR s (6 : Int)) (1 : Int))))))), (AV.v (Value.int IntKind.i64 (IntKind.wrap IntKind.i64 ((exInt (AV.v (Value.int IntKind.i64 (Oc.takeN (Oc.takeR (Oc.takeR s (6 : Int)) (1 : Int)) (1 : Int))))) - (1 : Int))))), (AV.v (Value.int IntKind.i64 (exInt (AV.v (Value.int IntKind.i64 (Oc.takeN (Oc.takeR (Oc.takeR (Oc.takeR s (6 : Int)) (1 : Int)) (1 : Int)) (1 : Int))))))), (AV.v (Value.int IntKind.i64 (exInt (AV.v (Value.int IntKind.i64 (Oc.takeN (Oc.takeR (Oc.takeR (Oc.takeR (Oc.takeR s (6 : Int)) (1 : Int)) (1 : Int)) (1 : Int)) (1 : Int))))))), (AV.v (Value.int IntKind.i64 (exInt (AV.v (Value.int IntKind.i64 (Oc.takeN (Oc.takeR (Oc.takeR (Oc.takeR (Oc.takeR (Oc.takeR s (6 : Int)) (1 : Int)) (1 : Int)) (1 : Int)) (1 : Int)) (4 : Int))))))), (AV.v (Value.int IntKind.i64 (exInt (AV.v (Value.int IntKind.i64 (Oc.takeN (Oc.takeR (Oc.takeR (Oc.takeR (Oc.takeR (Oc.takeR (Oc.takeR s (6 : Int)) (1 : Int)) (1 : Int)) (1 : Int)) (1 : Int)) (4 : Int)) (1 : Int)))))))]), ((44 : Nat), [(AV.v (Value.int IntKind.i64 (Oc.takeN s (6 : Int)))), (AV.v (Value.int IntKind.i64 (Oc.takeN (Oc.takeR s (6 : Int)) (1 : Int)))), (AV.v (Value.int IntKind.i64 (Oc.takeN (Oc.takeR (Oc.takeR s (6 : Int)) (1 : Int)) (1 : Int)))), (AV.v (Value.int IntKind.i64 (Oc.takeN (Oc.takeR (Oc.takeR (Oc.takeR s (6 : Int)) (1 : Int)) (1 : Int)) (1 : Int)))), (AV.v (Value.int IntKind.i64 (Oc.takeN (Oc.takeR (Oc.takeR (Oc.takeR (Oc.takeR s (6 : Int)) (1 : Int)) (1 : Int)) (1 : Int)) (1 : Int)))), (AV.v (Value.int IntKind.i64 (Oc.takeN (Oc.takeR (Oc.takeR (Oc.takeR (Oc.takeR (Oc.takeR s (6 : Int)) (1 : Int)) (1 : Int)) (1 : Int)) (1 : Int)) (4 : Int)))), (AV.v (Value.int IntKind.i64 (Oc.takeN (Oc.takeR (Oc.takeR (Oc.takeR (Oc.takeR (Oc.takeR (Oc.takeR s (6 : Int)) (1 : Int)) (1 : Int)) (1 : Int)) (1 : Int)) (4 : Int)) (1 : Int))))])] (@List.nil Nat) (0 : Nat) (0 : Nat) true (@List.nil (Prod Nat Bool)) True)))) else (some ((cdb (cdb (cdb (cdb (cdb (cdb (cdb True (decide ((ByteArray.size s) ≤ (9223372036854775807 : Nat)))) (decide ((ByteArray.size (Oc.takeR s (6 : Int))) ≤ (9223372036854775807 : Nat)))) (decide ((ByteArray.size (Oc.takeR (Oc.takeR s (6 : Int)) (1 : Int))) ≤ (9223372036854775807 : Nat)))) (decide ((ByteArray.size (Oc.takeR (Oc.takeR (Oc.takeR s (6 : Int)) (1 : Int)) (1 : Int))) ≤ (9223372036854775807 : Nat)))) (decide ((ByteArray.size (Oc.takeR (Oc.takeR (Oc.takeR (Oc.takeR s (6 : Int)) (1 : Int)) (1 : Int)) (1 : Int))) ≤ (9223372036854775807 : Nat)))) (decide ((ByteArray.size (Oc.takeR (Oc.takeR (Oc.takeR (Oc.takeR (Oc.takeR s (6 : Int)) (1 : Int)) (1 : Int)) (1 : Int)) (1 : Int))) ≤ (9223372036854775807 : Nat)))) (decide ((ByteArray.size (Oc.takeR (Oc.takeR (Oc.takeR (Oc.takeR (Oc.takeR (Oc.takeR s (6 : Int)) (1 : Int)) (1 : Int)) (1 : Int)) (1 : Int)) (4 : Int))) ≤ (9223372036854775807 : Nat)))) ∧ (R Exit.ret [AV.dead, AV.dead, (AV.ptr (0 : Nat) (0 : Nat)), (AV.ptr (1 : Nat) (0 : Nat)), AV.dead, AV.dead, AV.dead, AV.dead, AV.dead, AV.dead, AV.dead, AV.dead, AV.dead, AV.dead, AV.dead, AV.dead, AV.dead, AV.dead, AV.dead, AV.dead] (AH.mk [((23 : Nat), [(AV.v (Value.int IntKind.i64 (exInt (AV.v (Value.int IntKind.i64 (Oc.takeN s (6 : Int))))))), (AV.v (Value.int IntKind.i64 (exInt (AV.v (Value.int IntKind.i64 (Oc.takeN (Oc.takeR s (6 : Int)) (1 : Int))))))), (AV.v (Value.int IntKind.i64 (IntKind.wrap IntKind.i64 ((exInt (AV.v (Value.int IntKind.i64 (Oc.takeN (Oc.takeR (Oc.takeR s (6 : Int)) (1 : Int)) (1 : Int))))) - (1 : Int))))), (AV.v (Value.int IntKind.i64 (exInt (AV.v (Value.int IntKind.i64 (Oc.takeN (Oc.takeR (Oc.takeR (Oc.takeR s (6 : Int)) (1 : Int)) (1 : Int)) (1 : Int))))))), (AV.v (Value.int IntKind.i64 (exInt (AV.v (Value.int IntKind.i64 (Oc.takeN (Oc.takeR (Oc.takeR (Oc.takeR (Oc.takeR s (6 : Int)) (1 : Int)) (1 : Int)) (1 : Int)) (1 : Int))))))), (AV.v (Value.int IntKind.i64 (exInt (AV.v (Value.int IntKind.i64 (Oc.takeN (Oc.takeR (Oc.takeR (Oc.takeR (Oc.takeR (Oc.takeR s (6 : Int)) (1 : Int)) (1 : Int)) (1 : Int)) (1 : Int)) (4 : Int))))))), (AV.v (Value.int IntKind.i64 (exInt (AV.v (Value.int IntKind.i64 (Oc.takeN (Oc.takeR (Oc.takeR (Oc.takeR (Oc.takeR (Oc.takeR (Oc.takeR s (6 : Int)) (1 : Int)) (1 : Int)) (1 : Int)) (1 : Int)) (4 : Int)) (1 : Int)))))))]), ((26 : Nat), [(AV.v (Value.int IntKind.i64 (0 : Int)))]), ((62 : Nat), [(AV.v (Value.string (Oc.takeR (Oc.takeR (Oc.takeR (Oc.takeR (Oc.takeR (Oc.takeR (Oc.takeR s (6 : Int)) (1 : Int)) (1 : Int)) (1 : Int)) (1 : Int)) (4 : Int)) (1 : Int))))]), ((23 : Nat), [(AV.v (Value.int IntKind.i64 (exInt (AV.v (Value.int IntKind.i64 (Oc.takeN s (6 : Int))))))), (AV.v (Value.int IntKind.i64 (exInt (AV.v (Value.int IntKind.i64 (Oc.takeN (Oc.takeR s (6 : Int)) (1 : Int))))))), (AV.v (Value.int IntKind.i64 (IntKind.wrap IntKind.i64 ((exInt (AV.v (Value.int IntKind.i64 (Oc.takeN (Oc.takeR (Oc.takeR s (6 : Int)) (1 : Int)) (1 : Int))))) - (1 : Int))))), (AV.v (Value.int IntKind.i64 (exInt (AV.v (Value.int IntKind.i64 (Oc.takeN (Oc.takeR (Oc.takeR (Oc.takeR s (6 : Int)) (1 : Int)) (1 : Int)) (1 : Int))))))), (AV.v (Value.int IntKind.i64 (exInt (AV.v (Value.int IntKind.i64 (Oc.takeN (Oc.takeR (Oc.takeR (Oc.takeR (Oc.takeR s (6 : Int)) (1 : Int)) (1 : Int)) (1 : Int)) (1 : Int))))))), (AV.v (Value.int IntKind.i64 (exInt (AV.v (Value.int IntKind.i64 (Oc.takeN (Oc.takeR (Oc.takeR (Oc.takeR (Oc.takeR (Oc.takeR s (6 : Int)) (1 : Int)) (1 : Int)) (1 : Int)) (1 : Int)) (4 : Int))))))), (AV.v (Value.int IntKind.i64 (exInt (AV.v (Value.int IntKind.i64 (Oc.takeN (Oc.takeR (Oc.takeR (Oc.takeR (Oc.takeR (Oc.takeR (Oc.takeR s (6 : Int)) (1 : Int)) (1 : Int)) (1 : Int)) (1 : Int)) (4 : Int)) (1 : Int)))))))]), ((44 : Nat), [(AV.v (Value.int IntKind.i64 (Oc.takeN s (6 : Int)))), (AV.v (Value.int IntKind.i64 (Oc.takeN (Oc.takeR s (6 : Int)) (1 : Int)))), (AV.v (Value.int IntKind.i64 (Oc.takeN (Oc.takeR (Oc.takeR s (6 : Int)) (1 : Int)) (1 : Int)))), (AV.v (Value.int IntKind.i64 (Oc.takeN (Oc.takeR (Oc.takeR (Oc.takeR s (6 : Int)) (1 : Int)) (1 : Int)) (1 : Int)))), (AV.v (Value.int IntKind.i64 (Oc.takeN (Oc.takeR (Oc.takeR (Oc.takeR (Oc.takeR s (6 : Int)) (1 : Int)) (1 : Int)) (1 : Int)) (1 : Int)))), (AV.v (Value.int IntKind.i64 (Oc.takeN (Oc.takeR (Oc.takeR (Oc.takeR (Oc.takeR (Oc.takeR s (6 : Int)) (1 : Int)) (1 : Int)) (1 : Int)) (1 : Int)) (4 : Int)))), (AV.v (Value.int IntKind.i64 (Oc.takeN (Oc.takeR (Oc.takeR (Oc.takeR (Oc.takeR (Oc.takeR (Oc.takeR s (6 : Int)) (1 : Int)) (1 : Int)) (1 : Int)) (1 : Int)) (4 : Int)) (1 : Int))))])] (@List.nil Nat) (0 : Nat) (0 : Nat) true (@List.nil (Prod Nat Bool)) True))))))))))))) := by kernel_rfl
end Go.Proofs.YtemjnfncncmbdaaDoor.AE
namespace Go.Proofs.YtemjnfncncmbdaaDoor.AE
open Go.RowKit Oc
def gB (x0 x1 x2 x3 x4 x5 x6 : Int) (more : List (TypeId × List AV)) : AH := hp ((23, [.v (.int .i64 x0), .v (.int .i64 x1), .v (.int .i64 x2), .v (.int .i64 x3), .v (.int .i64 x4), .v (.int .i64 x5), .v (.int .i64 x6)]) :: (26, [.v (.int .i64 0)]) :: more) []
def gC (w : Value) (ok : Bool) : List AV := [.ptr 0 0, .ptr 1 0, .v w, .v (.bool ok)] ++ List.replicate 8 .dead
theorem g_r1 (e : Int) : recG Tryd.prog (sub (bodyOf 22) [0]) ([.ptr 0 0, .ptr 1 0] ++ List.replicate 10 (.v undef)) (.iface 26 (.int .i64 e)) =
    (some [(AV.ptr (0 : Nat) (0 : Nat)), (AV.ptr (1 : Nat) (0 : Nat)), (AV.v (Value.int IntKind.i64 e)), (AV.v (Value.bool true)), (AV.v (Value.tuple #[(Value.int IntKind.i64 e), (Value.bool true)])), (AV.v (Value.iface (26 : Nat) (Value.int IntKind.i64 e))), (AV.v (Value.tuple #[(Value.int IntKind.i64 e), (Value.bool true)])), (AV.v (Value.int IntKind.i64 e)), (AV.v (Value.bool true)), (AV.v (Value.tuple (Array.mk (@List.nil Go.Value)))), (AV.v (Value.tuple (Array.mk (@List.nil Go.Value)))), (AV.v (Value.tuple (Array.mk (@List.nil Go.Value))))]) := by kernel_rfl
theorem g_r0  : recG Tryd.prog (sub (bodyOf 22) [0]) ([.ptr 0 0, .ptr 1 0] ++ List.replicate 10 (.v undef)) .nilIface =
    (some [(AV.ptr (0 : Nat) (0 : Nat)), (AV.ptr (1 : Nat) (0 : Nat)), (AV.v (Value.int IntKind.i64 (0 : Int))), (AV.v (Value.bool false)), (AV.v (Value.tuple #[(Value.int IntKind.i64 (0 : Int)), (Value.bool false)])), (AV.v Value.nilIface), (AV.v (Value.tuple #[(Value.int IntKind.i64 (0 : Int)), (Value.bool false)])), (AV.v (Value.int IntKind.i64 (0 : Int))), (AV.v (Value.bool false)), (AV.v (Value.tuple (Array.mk (@List.nil Go.Value)))), (AV.v (Value.tuple (Array.mk (@List.nil Go.Value)))), (AV.v (Value.tuple (Array.mk (@List.nil Go.Value))))]) := by kernel_rfl
theorem g_t1 (e : Int) (x0 x1 x2 x3 x4 x5 x6 : Int) (more : List (TypeId × List AV)) (R : Exit → List AV → AH → Prop) : code ro25 (fun _ => false) (fun _ => none) 8 (sub (bodyOf 22) [1]) (gC (.int .i64 e) true) (gB x0 x1 x2 x3 x4 x5 x6 more) (kp [] R) =
    (some (True ∧ (R Exit.normal [AV.dead, AV.dead, AV.dead, AV.dead, AV.dead, AV.dead, AV.dead, AV.dead, AV.dead, AV.dead, AV.dead, AV.dead] (AH.mk (((23 : Nat), [(AV.v (Value.int IntKind.i64 (0 : Int))), (AV.v (Value.int IntKind.i64 (0 : Int))), (AV.v (Value.int IntKind.i64 (0 : Int))), (AV.v (Value.int IntKind.i64 (0 : Int))), (AV.v (Value.int IntKind.i64 (0 : Int))), (AV.v (Value.int IntKind.i64 (0 : Int))), (AV.v (Value.int IntKind.i64 (0 : Int)))]) :: ((26 : Nat), [(AV.v (Value.int IntKind.i64 e))]) :: more) (@List.nil Nat) (0 : Nat) (0 : Nat) true (@List.nil (Prod Nat Bool)) True)))) := by kernel_rfl
theorem g_t0 (w : Value) (x0 x1 x2 x3 x4 x5 x6 : Int) (more : List (TypeId × List AV)) (R : Exit → List AV → AH → Prop) : code ro25 (fun _ => false) (fun _ => none) 8 (sub (bodyOf 22) [1]) (gC w false) (gB x0 x1 x2 x3 x4 x5 x6 more) (kp [] R) =
    (some (True ∧ (R Exit.normal [AV.dead, AV.dead, AV.dead, AV.dead, AV.dead, AV.dead, AV.dead, AV.dead, AV.dead, AV.dead, AV.dead, AV.dead] (AH.mk (((23 : Nat), [(AV.v (Value.int IntKind.i64 x0)), (AV.v (Value.int IntKind.i64 x1)), (AV.v (Value.int IntKind.i64 x2)), (AV.v (Value.int IntKind.i64 x3)), (AV.v (Value.int IntKind.i64 x4)), (AV.v (Value.int IntKind.i64 x5)), (AV.v (Value.int IntKind.i64 x6))]) :: ((26 : Nat), [(AV.v (Value.int IntKind.i64 (0 : Int)))]) :: more) (@List.nil Nat) (0 : Nat) (0 : Nat) true (@List.nil (Prod Nat Bool)) True)))) := by kernel_rfl
def gD : List AV := [.dead, .dead, .ptr 0 0, .ptr 1 0] ++ List.replicate 16 .dead
def gEnd (e : Exit) (H2 : AH) (v : AV) : Prop := ∃ rv ar, endV e = some rv ∧ recG Tryd.prog (sub (bodyOf 22) [0]) ([.ptr 0 0, .ptr 1 0] ++ List.replicate 10 (.v undef)) (rv.getD .nilIface) = some ar ∧
  Tr Tryd.prog ro25 (sub (bodyOf 22) [1]) ar H2 fun e3 _ H3 => (e3 = .normal ∨ e3 = .ret) ∧ ansOk (fun r _ => r = v) (resOf Tryd.prog ro25 [.cell 2 23, .cell 3 26] gD H3)
theorem clo1 (e : Int) (x0 x1 x2 x3 x4 x5 x6 : Int) (more : List (TypeId × List AV)) {v : AV} (hv : AV.v (.tuple #[reqV fun _ => 0, .int .i64 e]) = v) : gEnd (.panic [⟨.iface 26 (.int .i64 e), false, false⟩]) (gB x0 x1 x2 x3 x4 x5 x6 more) v := by
  subst hv
  refine ⟨some (.iface 26 (.int .i64 e)), _, rfl, g_r1 e, Tr.keep [0, 1, 2, 3] ?_⟩
  exact Tr.of_code (known_none _) (g_t1 e x0 x1 x2 x3 x4 x5 x6 more _) ⟨trivial, .inl rfl, trivial, rfl⟩
theorem clo0 (x0 x1 x2 x3 x4 x5 x6 : Int) (more : List (TypeId × List AV)) {v : AV} (hv : AV.v (.tuple #[.agg #[.int .i64 x0, .int .i64 x1, .int .i64 x2, .int .i64 x3, .int .i64 x4, .int .i64 x5, .int .i64 x6], .int .i64 0]) = v) : gEnd .ret (gB x0 x1 x2 x3 x4 x5 x6 more) v := by
  subst hv
  refine ⟨none, _, rfl, g_r0, Tr.keep [0, 1, 2, 3] ?_⟩
  exact Tr.of_code (known_none _) (g_t0 (.int .i64 0) x0 x1 x2 x3 x4 x5 x6 more _) ⟨trivial, .inl rfl, trivial, rfl⟩
end Go.Proofs.YtemjnfncncmbdaaDoor.AE
namespace Go.Proofs.YtemjnfncncmbdaaDoor.AE
open Go.RowKit Oc
set_option maxHeartbeats 1000000 in
theorem fs_get (s : ByteArray) (hs : s.size ≤ maxLen) : Fs Tryd.prog ro25 12 [.v (.string s)] (hp [] []) fun r _ => r = .v (getV s) := by
  refine Fs.of_defer (x := sub (bodyOf 12) [0]) (d := sub (bodyOf 12) [1, 0]) (y := sub (bodyOf 12) [1, 1]) (h := 22) (cap := [.tmp 2, .tmp 3]) (s := 5) Tryd.func12 (by kernel_rfl) (by kernel_rfl) (z := sub (bodyOf 22) [0]) (t := sub (bodyOf 22) [1]) Tryd.func22 (by kernel_rfl) (by kernel_rfl) (by kernel_rfl) ?_
  show Tr _ _ _ ([.v (.string s)] ++ List.replicate 19 (.v undef)) _ _
  refine Tr.of_code knownB (g_x s _) ⟨trivial, rfl, (by show 5 < 20; decide), Tr.keep [0, 2, 3, 5] ?_⟩
  show Tr _ _ _ (gA s) gH (fun e2 a2 H2 => ∃ rv ar, endV e2 = some rv ∧ recG Tryd.prog (sub (bodyOf 22) [0]) ([.ptr 0 0, .ptr 1 0] ++ List.replicate 10 (.v undef)) (rv.getD .nilIface) = some ar ∧
    Tr Tryd.prog ro25 (sub (bodyOf 22) [1]) ar H2 fun e3 _ H3 => (e3 = .normal ∨ e3 = .ret) ∧ ansOk (fun r _ => r = AV.v (getV s)) (resOf Tryd.prog ro25 [.cell 2 23, .cell 3 26] a2 H3))
  refine Tr.of_code knownB (g_y s _) ?_
  unfold maxLen at hs
  obtain ⟨s1, q1⟩ : ∃ x, x = takeR s 6 := ⟨_, rfl⟩
  obtain ⟨s2, q2⟩ : ∃ x, x = takeR s1 1 := ⟨_, rfl⟩
  obtain ⟨s3, q3⟩ : ∃ x, x = takeR s2 1 := ⟨_, rfl⟩
  obtain ⟨s4, q4⟩ : ∃ x, x = takeR s3 1 := ⟨_, rfl⟩
  obtain ⟨s5, q5⟩ : ∃ x, x = takeR s4 1 := ⟨_, rfl⟩
  obtain ⟨s6, q6⟩ : ∃ x, x = takeR s5 4 := ⟨_, rfl⟩
  obtain ⟨s7, q7⟩ : ∃ x, x = takeR s6 1 := ⟨_, rfl⟩
  rw [← q1, ← q2, ← q3, ← q4, ← q5, ← q6, ← q7]
  refine holds_bif (fun h => ?_) (fun h0 => ?_)
  · have b := take_bad_of h (by decide) (by decide)
    rw [b.1]
    refine ⟨?_, clo1 3 _ _ _ _ _ _ _ _ (get_err (e3 (by omega)) (by decide))⟩
    repeat' first
      | with_reducible exact trivial
      | with_reducible refine cdb_iff.2 ⟨?_, ?_⟩
    all_goals (refine decide_eq_true ?_; omega)
  have o0 := take_ok_of h0 (by decide) (by decide)
  rw [← q1] at o0
  refine holds_bif (fun h => ?_) (fun h1 => ?_)
  · have b := take_bad_of h (by decide) (by decide)
    rw [b.1]
    refine ⟨?_, clo1 3 _ _ _ _ _ _ _ _ (get_err (e3 (by omega)) (by decide))⟩
    repeat' first
      | with_reducible exact trivial
      | with_reducible refine cdb_iff.2 ⟨?_, ?_⟩
    all_goals (refine decide_eq_true ?_; omega)
  have o1 := take_ok_of h1 (by decide) (by decide)
  rw [← q2] at o1
  refine holds_bif (fun h => ?_) (fun h2 => ?_)
  · have b := take_bad_of h (by decide) (by decide)
    rw [b.1]
    refine ⟨?_, clo1 3 _ _ _ _ _ _ _ _ (get_err (e3 (by omega)) (by decide))⟩
    repeat' first
      | with_reducible exact trivial
      | with_reducible refine cdb_iff.2 ⟨?_, ?_⟩
    all_goals (refine decide_eq_true ?_; omega)
  have o2 := take_ok_of h2 (by decide) (by decide)
  rw [← q3] at o2
  refine holds_bif (fun h => ?_) (fun h3 => ?_)
  · have b := take_bad_of h (by decide) (by decide)
    rw [b.1]
    refine ⟨?_, clo1 3 _ _ _ _ _ _ _ _ (get_err (e3 (by omega)) (by decide))⟩
    repeat' first
      | with_reducible exact trivial
      | with_reducible refine cdb_iff.2 ⟨?_, ?_⟩
    all_goals (refine decide_eq_true ?_; omega)
  have o3 := take_ok_of h3 (by decide) (by decide)
  rw [← q4] at o3
  refine holds_bif (fun h => ?_) (fun h4 => ?_)
  · have b := take_bad_of h (by decide) (by decide)
    rw [b.1]
    refine ⟨?_, clo1 3 _ _ _ _ _ _ _ _ (get_err (e3 (by omega)) (by decide))⟩
    repeat' first
      | with_reducible exact trivial
      | with_reducible refine cdb_iff.2 ⟨?_, ?_⟩
    all_goals (refine decide_eq_true ?_; omega)
  have o4 := take_ok_of h4 (by decide) (by decide)
  rw [← q5] at o4
  refine holds_bif (fun h => ?_) (fun h5 => ?_)
  · have b := take_bad_of h (by decide) (by decide)
    rw [b.1]
    refine ⟨?_, clo1 3 _ _ _ _ _ _ _ _ (get_err (e3 (by omega)) (by decide))⟩
    repeat' first
      | with_reducible exact trivial
      | with_reducible refine cdb_iff.2 ⟨?_, ?_⟩
    all_goals (refine decide_eq_true ?_; omega)
  have o5 := take_ok_of h5 (by decide) (by decide)
  rw [← q6] at o5
  refine holds_bif (fun h => ?_) (fun h6 => ?_)
  · have b := take_bad_of h (by decide) (by decide)
    rw [b.1]
    refine ⟨?_, clo1 3 _ _ _ _ _ _ _ _ (get_err (e3 (by omega)) (by decide))⟩
    repeat' first
      | with_reducible exact trivial
      | with_reducible refine cdb_iff.2 ⟨?_, ?_⟩
    all_goals (refine decide_eq_true ?_; omega)
  have o6 := take_ok_of h6 (by decide) (by decide)
  rw [← q7] at o6
  refine holds_bif (fun h => ?_) (fun h => ?_)
  · have h := of_decide_eq_true h
    refine ⟨?_, clo1 2 _ _ _ _ _ _ _ _ (get_err (e2 (by omega) (.inl (by omega))) (by decide))⟩
    repeat' first
      | with_reducible exact trivial
      | with_reducible refine cdb_iff.2 ⟨?_, ?_⟩
    all_goals (refine decide_eq_true ?_; omega)
  have h := of_decide_eq_false h
  refine holds_bif (fun h3 => ?_) (fun h3 => ?_)
  · have h3 : (chk25 (vals25 s) != 0) = true := Eq.trans (by subst q7 q6 q5 q4 q3 q2 q1; kernel_rfl) h3
    refine ⟨?_, clo1 2 _ _ _ _ _ _ _ _ (get_err (e2 (by omega) (.inr (by simpa using h3))) (by decide))⟩
    repeat' first
      | with_reducible exact trivial
      | with_reducible refine cdb_iff.2 ⟨?_, ?_⟩
    all_goals (refine decide_eq_true ?_; omega)
  · have h3 : (chk25 (vals25 s) != 0) = false := Eq.trans (by subst q7 q6 q5 q4 q3 q2 q1; kernel_rfl) h3
    refine ⟨?_, clo0 _ _ _ _ _ _ _ _ ?_⟩
    · repeat' first
        | with_reducible exact trivial
        | with_reducible refine cdb_iff.2 ⟨?_, ?_⟩
      all_goals (refine decide_eq_true ?_; omega)
    · rw [← get_good (e0 (by omega) (by simpa using h3))]
      subst q7 q6 q5 q4 q3 q2 q1
      kernel_rfl
end Go.Proofs.YtemjnfncncmbdaaDoor.AE
namespace Go.Proofs.YtemjnfncncmbdaaDoor.AE
open Go.RowKit Oc
def nmL : List ByteArray := ["good".toUTF8, "refused".toUTF8, "expired".toUTF8, "spent".toUTF8, "evicted".toUTF8, "late".toUTF8, "failed".toUTF8, "cut".toUTF8, "starved".toUTF8, "broken".toUTF8]
def nameB (c : Int) : Bool := decide (1 ≤ c ∧ c ≤ 10)
def nameS (c : Int) : ByteArray := if 1 ≤ c ∧ c ≤ 10 then nmL.getD (c - 1).toNat ⟨#[]⟩ else ⟨#[]⟩
def nameV (c : Int) : Value := .tuple #[.string (nameS c), .bool (nameB c)]
def codeA (s : ByteArray) : Nat → List ByteArray → Int
  | _, [] => 0
  | i, x :: l => if x = s then (i : Int) else codeA s (i + 1) l
def codeI (s : ByteArray) : Int := codeA s 1 nmL
def codeB (s : ByteArray) : Bool := codeI s != 0
def codeV (s : ByteArray) : Value := .tuple #[.int .i64 (codeI s), .bool (codeB s)]
theorem ba_inj {a b : ByteArray} : (a.toList == b.toList) = decide (a = b) := by
  rw [Bool.eq_iff_iff, beq_iff_eq, decide_eq_true_eq, ByteArray.toList_eq, ByteArray.toList_eq]
  exact ⟨fun h => ByteArray.ext (Array.toList_inj.1 h), fun h => by rw [h]⟩
theorem code_none {s : ByteArray} (h0 : ¬ "good".toUTF8 = s) (h1 : ¬ "refused".toUTF8 = s) (h2 : ¬ "expired".toUTF8 = s) (h3 : ¬ "spent".toUTF8 = s) (h4 : ¬ "evicted".toUTF8 = s) (h5 : ¬ "late".toUTF8 = s) (h6 : ¬ "failed".toUTF8 = s) (h7 : ¬ "cut".toUTF8 = s) (h8 : ¬ "starved".toUTF8 = s) (h9 : ¬ "broken".toUTF8 = s) : codeI s = 0 := by
  unfold codeI nmL
  rw [codeA, if_neg h0, codeA, if_neg h1, codeA, if_neg h2, codeA, if_neg h3, codeA, if_neg h4, codeA, if_neg h5, codeA, if_neg h6, codeA, if_neg h7, codeA, if_neg h8, codeA, if_neg h9, codeA]
theorem t_name (c : Int) (Φ : AV → Prop) : callK ro25 (fun _ => false) prB 10 14 [.v (.int .i64 c)] (hp [] []) (fun r h => some (h.cd ∧ Φ r)) =
    (bif (decide ((1 : Int) ≤ c)) then (bif (!(decide (c ≤ (10 : Int)))) then (some (True ∧ (Φ (AV.v (Value.tuple #[(Value.string (ByteArray.mk (Array.mk (@List.nil UInt8)))), (Value.bool false)]))))) else (some ((cds (cdb True (decide (((0 : Int) ≤ (IntKind.wrap IntKind.i64 (c - (1 : Int)))) ∧ ((IntKind.wrap IntKind.i64 (c - (1 : Int))) < (10 : Int))))) (shapes Tryd.prog (List.take (1 : Nat) (List.drop ((0 : Nat) + ((Int.toNat (IntKind.wrap IntKind.i64 (c - (1 : Int)))) * (1 : Nat))) [(AV.v (Value.string (List.toByteArray.loop [(UInt8.ofNat (103 : Nat)), (UInt8.ofNat (111 : Nat)), (UInt8.ofNat (111 : Nat)), (UInt8.ofNat (100 : Nat))] (ByteArray.mk (Array.mk (@List.nil UInt8)))))), (AV.v (Value.string (List.toByteArray.loop [(UInt8.ofNat (114 : Nat)), (UInt8.ofNat (101 : Nat)), (UInt8.ofNat (102 : Nat)), (UInt8.ofNat (117 : Nat)), (UInt8.ofNat (115 : Nat)), (UInt8.ofNat (101 : Nat)), (UInt8.ofNat (100 : Nat))] (ByteArray.mk (Array.mk (@List.nil UInt8)))))), (AV.v (Value.string (List.toByteArray.loop [(UInt8.ofNat (101 : Nat)), (UInt8.ofNat (120 : Nat)), (UInt8.ofNat (112 : Nat)), (UInt8.ofNat (105 : Nat)), (UInt8.ofNat (114 : Nat)), (UInt8.ofNat (101 : Nat)), (UInt8.ofNat (100 : Nat))] (ByteArray.mk (Array.mk (@List.nil UInt8)))))), (AV.v (Value.string (List.toByteArray.loop [(UInt8.ofNat (115 : Nat)), (UInt8.ofNat (112 : Nat)), (UInt8.ofNat (101 : Nat)), (UInt8.ofNat (110 : Nat)), (UInt8.ofNat (116 : Nat))] (ByteArray.mk (Array.mk (@List.nil UInt8)))))), (AV.v (Value.string (List.toByteArray.loop [(UInt8.ofNat (101 : Nat)), (UInt8.ofNat (118 : Nat)), (UInt8.ofNat (105 : Nat)), (UInt8.ofNat (99 : Nat)), (UInt8.ofNat (116 : Nat)), (UInt8.ofNat (101 : Nat)), (UInt8.ofNat (100 : Nat))] (ByteArray.mk (Array.mk (@List.nil UInt8)))))), (AV.v (Value.string (List.toByteArray.loop [(UInt8.ofNat (108 : Nat)), (UInt8.ofNat (97 : Nat)), (UInt8.ofNat (116 : Nat)), (UInt8.ofNat (101 : Nat))] (ByteArray.mk (Array.mk (@List.nil UInt8)))))), (AV.v (Value.string (List.toByteArray.loop [(UInt8.ofNat (102 : Nat)), (UInt8.ofNat (97 : Nat)), (UInt8.ofNat (105 : Nat)), (UInt8.ofNat (108 : Nat)), (UInt8.ofNat (101 : Nat)), (UInt8.ofNat (100 : Nat))] (ByteArray.mk (Array.mk (@List.nil UInt8)))))), (AV.v (Value.string (List.toByteArray.loop [(UInt8.ofNat (99 : Nat)), (UInt8.ofNat (117 : Nat)), (UInt8.ofNat (116 : Nat))] (ByteArray.mk (Array.mk (@List.nil UInt8)))))), (AV.v (Value.string (List.toByteArray.loop [(UInt8.ofNat (115 : Nat)), (UInt8.ofNat (116 : Nat)), (UInt8.ofNat (97 : Nat)), (UInt8.ofNat (114 : Nat)), (UInt8.ofNat (118 : Nat)), (UInt8.ofNat (101 : Nat)), (UInt8.ofNat (100 : Nat))] (ByteArray.mk (Array.mk (@List.nil UInt8)))))), (AV.v (Value.string (List.toByteArray.loop [(UInt8.ofNat (98 : Nat)), (UInt8.ofNat (114 : Nat)), (UInt8.ofNat (111 : Nat)), (UInt8.ofNat (107 : Nat)), (UInt8.ofNat (101 : Nat)), (UInt8.ofNat (110 : Nat))] (ByteArray.mk (Array.mk (@List.nil UInt8))))))])) [(9 : Nat)]) ((List.take (1 : Nat) (List.drop ((0 : Nat) + ((Int.toNat (IntKind.wrap IntKind.i64 (c - (1 : Int)))) * (1 : Nat))) [(AV.v (Value.string (List.toByteArray.loop [(UInt8.ofNat (103 : Nat)), (UInt8.ofNat (111 : Nat)), (UInt8.ofNat (111 : Nat)), (UInt8.ofNat (100 : Nat))] (ByteArray.mk (Array.mk (@List.nil UInt8)))))), (AV.v (Value.string (List.toByteArray.loop [(UInt8.ofNat (114 : Nat)), (UInt8.ofNat (101 : Nat)), (UInt8.ofNat (102 : Nat)), (UInt8.ofNat (117 : Nat)), (UInt8.ofNat (115 : Nat)), (UInt8.ofNat (101 : Nat)), (UInt8.ofNat (100 : Nat))] (ByteArray.mk (Array.mk (@List.nil UInt8)))))), (AV.v (Value.string (List.toByteArray.loop [(UInt8.ofNat (101 : Nat)), (UInt8.ofNat (120 : Nat)), (UInt8.ofNat (112 : Nat)), (UInt8.ofNat (105 : Nat)), (UInt8.ofNat (114 : Nat)), (UInt8.ofNat (101 : Nat)), (UInt8.ofNat (100 : Nat))] (ByteArray.mk (Array.mk (@List.nil UInt8)))))), (AV.v (Value.string (List.toByteArray.loop [(UInt8.ofNat (115 : Nat)), (UInt8.ofNat (112 : Nat)), (UInt8.ofNat (101 : Nat)), (UInt8.ofNat (110 : Nat)), (UInt8.ofNat (116 : Nat))] (ByteArray.mk (Array.mk (@List.nil UInt8)))))), (AV.v (Value.string (List.toByteArray.loop [(UInt8.ofNat (101 : Nat)), (UInt8.ofNat (118 : Nat)), (UInt8.ofNat (105 : Nat)), (UInt8.ofNat (99 : Nat)), (UInt8.ofNat (116 : Nat)), (UInt8.ofNat (101 : Nat)), (UInt8.ofNat (100 : Nat))] (ByteArray.mk (Array.mk (@List.nil UInt8)))))), (AV.v (Value.string (List.toByteArray.loop [(UInt8.ofNat (108 : Nat)), (UInt8.ofNat (97 : Nat)), (UInt8.ofNat (116 : Nat)), (UInt8.ofNat (101 : Nat))] (ByteArray.mk (Array.mk (@List.nil UInt8)))))), (AV.v (Value.string (List.toByteArray.loop [(UInt8.ofNat (102 : Nat)), (UInt8.ofNat (97 : Nat)), (UInt8.ofNat (105 : Nat)), (UInt8.ofNat (108 : Nat)), (UInt8.ofNat (101 : Nat)), (UInt8.ofNat (100 : Nat))] (ByteArray.mk (Array.mk (@List.nil UInt8)))))), (AV.v (Value.string (List.toByteArray.loop [(UInt8.ofNat (99 : Nat)), (UInt8.ofNat (117 : Nat)), (UInt8.ofNat (116 : Nat))] (ByteArray.mk (Array.mk (@List.nil UInt8)))))), (AV.v (Value.string (List.toByteArray.loop [(UInt8.ofNat (115 : Nat)), (UInt8.ofNat (116 : Nat)), (UInt8.ofNat (97 : Nat)), (UInt8.ofNat (114 : Nat)), (UInt8.ofNat (118 : Nat)), (UInt8.ofNat (101 : Nat)), (UInt8.ofNat (100 : Nat))] (ByteArray.mk (Array.mk (@List.nil UInt8)))))), (AV.v (Value.string (List.toByteArray.loop [(UInt8.ofNat (98 : Nat)), (UInt8.ofNat (114 : Nat)), (UInt8.ofNat (111 : Nat)), (UInt8.ofNat (107 : Nat)), (UInt8.ofNat (101 : Nat)), (UInt8.ofNat (110 : Nat))] (ByteArray.mk (Array.mk (@List.nil UInt8))))))])) = [(AV.v (Value.string (exStr (List.getD [(AV.v (Value.string (List.toByteArray.loop [(UInt8.ofNat (103 : Nat)), (UInt8.ofNat (111 : Nat)), (UInt8.ofNat (111 : Nat)), (UInt8.ofNat (100 : Nat))] (ByteArray.mk (Array.mk (@List.nil UInt8)))))), (AV.v (Value.string (List.toByteArray.loop [(UInt8.ofNat (114 : Nat)), (UInt8.ofNat (101 : Nat)), (UInt8.ofNat (102 : Nat)), (UInt8.ofNat (117 : Nat)), (UInt8.ofNat (115 : Nat)), (UInt8.ofNat (101 : Nat)), (UInt8.ofNat (100 : Nat))] (ByteArray.mk (Array.mk (@List.nil UInt8)))))), (AV.v (Value.string (List.toByteArray.loop [(UInt8.ofNat (101 : Nat)), (UInt8.ofNat (120 : Nat)), (UInt8.ofNat (112 : Nat)), (UInt8.ofNat (105 : Nat)), (UInt8.ofNat (114 : Nat)), (UInt8.ofNat (101 : Nat)), (UInt8.ofNat (100 : Nat))] (ByteArray.mk (Array.mk (@List.nil UInt8)))))), (AV.v (Value.string (List.toByteArray.loop [(UInt8.ofNat (115 : Nat)), (UInt8.ofNat (112 : Nat)), (UInt8.ofNat (101 : Nat)), (UInt8.ofNat (110 : Nat)), (UInt8.ofNat (116 : Nat))] (ByteArray.mk (Array.mk (@List.nil UInt8)))))), (AV.v (Value.string (List.toByteArray.loop [(UInt8.ofNat (101 : Nat)), (UInt8.ofNat (118 : Nat)), (UInt8.ofNat (105 : Nat)), (UInt8.ofNat (99 : Nat)), (UInt8.ofNat (116 : Nat)), (UInt8.ofNat (101 : Nat)), (UInt8.ofNat (100 : Nat))] (ByteArray.mk (Array.mk (@List.nil UInt8)))))), (AV.v (Value.string (List.toByteArray.loop [(UInt8.ofNat (108 : Nat)), (UInt8.ofNat (97 : Nat)), (UInt8.ofNat (116 : Nat)), (UInt8.ofNat (101 : Nat))] (ByteArray.mk (Array.mk (@List.nil UInt8)))))), (AV.v (Value.string (List.toByteArray.loop [(UInt8.ofNat (102 : Nat)), (UInt8.ofNat (97 : Nat)), (UInt8.ofNat (105 : Nat)), (UInt8.ofNat (108 : Nat)), (UInt8.ofNat (101 : Nat)), (UInt8.ofNat (100 : Nat))] (ByteArray.mk (Array.mk (@List.nil UInt8)))))), (AV.v (Value.string (List.toByteArray.loop [(UInt8.ofNat (99 : Nat)), (UInt8.ofNat (117 : Nat)), (UInt8.ofNat (116 : Nat))] (ByteArray.mk (Array.mk (@List.nil UInt8)))))), (AV.v (Value.string (List.toByteArray.loop [(UInt8.ofNat (115 : Nat)), (UInt8.ofNat (116 : Nat)), (UInt8.ofNat (97 : Nat)), (UInt8.ofNat (114 : Nat)), (UInt8.ofNat (118 : Nat)), (UInt8.ofNat (101 : Nat)), (UInt8.ofNat (100 : Nat))] (ByteArray.mk (Array.mk (@List.nil UInt8)))))), (AV.v (Value.string (List.toByteArray.loop [(UInt8.ofNat (98 : Nat)), (UInt8.ofNat (114 : Nat)), (UInt8.ofNat (111 : Nat)), (UInt8.ofNat (107 : Nat)), (UInt8.ofNat (101 : Nat)), (UInt8.ofNat (110 : Nat))] (ByteArray.mk (Array.mk (@List.nil UInt8))))))] (((0 : Nat) + ((Int.toNat (IntKind.wrap IntKind.i64 (c - (1 : Int)))) * (1 : Nat))) + (0 : Nat)) AV.dead))))])) ∧ (Φ (AV.v (Value.tuple #[(Value.string (exStr (List.getD [(AV.v (Value.string (List.toByteArray.loop [(UInt8.ofNat (103 : Nat)), (UInt8.ofNat (111 : Nat)), (UInt8.ofNat (111 : Nat)), (UInt8.ofNat (100 : Nat))] (ByteArray.mk (Array.mk (@List.nil UInt8)))))), (AV.v (Value.string (List.toByteArray.loop [(UInt8.ofNat (114 : Nat)), (UInt8.ofNat (101 : Nat)), (UInt8.ofNat (102 : Nat)), (UInt8.ofNat (117 : Nat)), (UInt8.ofNat (115 : Nat)), (UInt8.ofNat (101 : Nat)), (UInt8.ofNat (100 : Nat))] (ByteArray.mk (Array.mk (@List.nil UInt8)))))), (AV.v (Value.string (List.toByteArray.loop [(UInt8.ofNat (101 : Nat)), (UInt8.ofNat (120 : Nat)), (UInt8.ofNat (112 : Nat)), (UInt8.ofNat (105 : Nat)), (UInt8.ofNat (114 : Nat)), (UInt8.ofNat (101 : Nat)), (UInt8.ofNat (100 : Nat))] (ByteArray.mk (Array.mk (@List.nil UInt8)))))), (AV.v (Value.string (List.toByteArray.loop [(UInt8.ofNat (115 : Nat)), (UInt8.ofNat (112 : Nat)), (UInt8.ofNat (101 : Nat)), (UInt8.ofNat (110 : Nat)), (UInt8.ofNat (116 : Nat))] (ByteArray.mk (Array.mk (@List.nil UInt8)))))), (AV.v (Value.string (List.toByteArray.loop [(UInt8.ofNat (101 : Nat)), (UInt8.ofNat (118 : Nat)), (UInt8.ofNat (105 : Nat)), (UInt8.ofNat (99 : Nat)), (UInt8.ofNat (116 : Nat)), (UInt8.ofNat (101 : Nat)), (UInt8.ofNat (100 : Nat))] (ByteArray.mk (Array.mk (@List.nil UInt8)))))), (AV.v (Value.string (List.toByteArray.loop [(UInt8.ofNat (108 : Nat)), (UInt8.ofNat (97 : Nat)), (UInt8.ofNat (116 : Nat)), (UInt8.ofNat (101 : Nat))] (ByteArray.mk (Array.mk (@List.nil UInt8)))))), (AV.v (Value.string (List.toByteArray.loop [(UInt8.ofNat (102 : Nat)), (UInt8.ofNat (97 : Nat)), (UInt8.ofNat (105 : Nat)), (UInt8.ofNat (108 : Nat)), (UInt8.ofNat (101 : Nat)), (UInt8.ofNat (100 : Nat))] (ByteArray.mk (Array.mk (@List.nil UInt8)))))), (AV.v (Value.string (List.toByteArray.loop [(UInt8.ofNat (99 : Nat)), (UInt8.ofNat (117 : Nat)), (UInt8.ofNat (116 : Nat))] (ByteArray.mk (Array.mk (@List.nil UInt8)))))), (AV.v (Value.string (List.toByteArray.loop [(UInt8.ofNat (115 : Nat)), (UInt8.ofNat (116 : Nat)), (UInt8.ofNat (97 : Nat)), (UInt8.ofNat (114 : Nat)), (UInt8.ofNat (118 : Nat)), (UInt8.ofNat (101 : Nat)), (UInt8.ofNat (100 : Nat))] (ByteArray.mk (Array.mk (@List.nil UInt8)))))), (AV.v (Value.string (List.toByteArray.loop [(UInt8.ofNat (98 : Nat)), (UInt8.ofNat (114 : Nat)), (UInt8.ofNat (111 : Nat)), (UInt8.ofNat (107 : Nat)), (UInt8.ofNat (101 : Nat)), (UInt8.ofNat (110 : Nat))] (ByteArray.mk (Array.mk (@List.nil UInt8))))))] (((0 : Nat) + ((Int.toNat (IntKind.wrap IntKind.i64 (c - (1 : Int)))) * (1 : Nat))) + (0 : Nat)) AV.dead))), (Value.bool true)])))))) else (some (True ∧ (Φ (AV.v (Value.tuple #[(Value.string (ByteArray.mk (Array.mk (@List.nil UInt8)))), (Value.bool false)])))))) := by kernel_rfl
theorem t_code (s : ByteArray) (Φ : AV → Prop) : callK ro25 (fun _ => false) prB 10 15 [.v (.string s)] (hp [] []) (fun r h => some (h.cd ∧ Φ r)) =
    (bif ([(Array.getD #[(UInt8.ofNat (103 : Nat)), (UInt8.ofNat (111 : Nat)), (UInt8.ofNat (111 : Nat)), (UInt8.ofNat (100 : Nat))] (0 : Nat) (UInt8.ofBitVec (BitVec.ofFin (Fin.mk (0 : Nat) instInhabitedUInt8._proof_1)))), (Array.getD #[(UInt8.ofNat (103 : Nat)), (UInt8.ofNat (111 : Nat)), (UInt8.ofNat (111 : Nat)), (UInt8.ofNat (100 : Nat))] (1 : Nat) (UInt8.ofBitVec (BitVec.ofFin (Fin.mk (0 : Nat) instInhabitedUInt8._proof_1)))), (Array.getD #[(UInt8.ofNat (103 : Nat)), (UInt8.ofNat (111 : Nat)), (UInt8.ofNat (111 : Nat)), (UInt8.ofNat (100 : Nat))] (2 : Nat) (UInt8.ofBitVec (BitVec.ofFin (Fin.mk (0 : Nat) instInhabitedUInt8._proof_1)))), (Array.getD #[(UInt8.ofNat (103 : Nat)), (UInt8.ofNat (111 : Nat)), (UInt8.ofNat (111 : Nat)), (UInt8.ofNat (100 : Nat))] (3 : Nat) (UInt8.ofBitVec (BitVec.ofFin (Fin.mk (0 : Nat) instInhabitedUInt8._proof_1))))] == (ByteArray.toList s)) then (some (True ∧ (Φ (AV.v (Value.tuple #[(Value.int IntKind.i64 (1 : Int)), (Value.bool true)]))))) else (bif ([(Array.getD #[(UInt8.ofNat (114 : Nat)), (UInt8.ofNat (101 : Nat)), (UInt8.ofNat (102 : Nat)), (UInt8.ofNat (117 : Nat)), (UInt8.ofNat (115 : Nat)), (UInt8.ofNat (101 : Nat)), (UInt8.ofNat (100 : Nat))] (0 : Nat) (UInt8.ofBitVec (BitVec.ofFin (Fin.mk (0 : Nat) instInhabitedUInt8._proof_1)))), (Array.getD #[(UInt8.ofNat (114 : Nat)), (UInt8.ofNat (101 : Nat)), (UInt8.ofNat (102 : Nat)), (UInt8.ofNat (117 : Nat)), (UInt8.ofNat (115 : Nat)), (UInt8.ofNat (101 : Nat)), (UInt8.ofNat (100 : Nat))] (1 : Nat) (UInt8.ofBitVec (BitVec.ofFin (Fin.mk (0 : Nat) instInhabitedUInt8._proof_1)))), (Array.getD #[(UInt8.ofNat (114 : Nat)), (UInt8.ofNat (101 : Nat)), (UInt8.ofNat (102 : Nat)), (UInt8.ofNat (117 : Nat)), (UInt8.ofNat (115 : Nat)), (UInt8.ofNat (101 : Nat)), (UInt8.ofNat (100 : Nat))] (2 : Nat) (UInt8.ofBitVec (BitVec.ofFin (Fin.mk (0 : Nat) instInhabitedUInt8._proof_1)))), (Array.getD #[(UInt8.ofNat (114 : Nat)), (UInt8.ofNat (101 : Nat)), (UInt8.ofNat (102 : Nat)), (UInt8.ofNat (117 : Nat)), (UInt8.ofNat (115 : Nat)), (UInt8.ofNat (101 : Nat)), (UInt8.ofNat (100 : Nat))] (3 : Nat) (UInt8.ofBitVec (BitVec.ofFin (Fin.mk (0 : Nat) instInhabitedUInt8._proof_1)))), (Array.getD #[(UInt8.ofNat (114 : Nat)), (UInt8.ofNat (101 : Nat)), (UInt8.ofNat (102 : Nat)), (UInt8.ofNat (117 : Nat)), (UInt8.ofNat (115 : Nat)), (UInt8.ofNat (101 : Nat)), (UInt8.ofNat (100 : Nat))] (4 : Nat) (UInt8.ofBitVec (BitVec.ofFin (Fin.mk (0 : Nat) instInhabitedUInt8._proof_1)))), (Array.getD #[(UInt8.ofNat (114 : Nat)), (UInt8.ofNat (101 : Nat)), (UInt8.ofNat (102 : Nat)), (UInt8.ofNat (117 : Nat)), (UInt8.ofNat (115 : Nat)), (UInt8.ofNat (101 : Nat)), (UInt8.ofNat (100 : Nat))] (5 : Nat) (UInt8.ofBitVec (BitVec.ofFin (Fin.mk (0 : Nat) instInhabitedUInt8._proof_1)))), (Array.getD #[(UInt8.ofNat (114 : Nat)), (UInt8.ofNat (101 : Nat)), (UInt8.ofNat (102 : Nat)), (UInt8.ofNat (117 : Nat)), (UInt8.ofNat (115 : Nat)), (UInt8.ofNat (101 : Nat)), (UInt8.ofNat (100 : Nat))] (6 : Nat) (UInt8.ofBitVec (BitVec.ofFin (Fin.mk (0 : Nat) instInhabitedUInt8._proof_1))))] == (ByteArray.toList s)) then (some (True ∧ (Φ (AV.v (Value.tuple #[(Value.int IntKind.i64 (2 : Int)), (Value.bool true)]))))) else (bif ([(Array.getD #[(UInt8.ofNat (101 : Nat)), (UInt8.ofNat (120 : Nat)), (UInt8.ofNat (112 : Nat)), (UInt8.ofNat (105 : Nat)), (UInt8.ofNat (114 : Nat)), (UInt8.ofNat (101 : Nat)), (UInt8.ofNat (100 : Nat))] (0 : Nat) (UInt8.ofBitVec (BitVec.ofFin (Fin.mk (0 : Nat) instInhabitedUInt8._proof_1)))), (Array.getD #[(UInt8.ofNat (101 : Nat)), (UInt8.ofNat (120 : Nat)), (UInt8.ofNat (112 : Nat)), (UInt8.ofNat (105 : Nat)), (UInt8.ofNat (114 : Nat)), (UInt8.ofNat (101 : Nat)), (UInt8.ofNat (100 : Nat))] (1 : Nat) (UInt8.ofBitVec (BitVec.ofFin (Fin.mk (0 : Nat) instInhabitedUInt8._proof_1)))), (Array.getD #[(UInt8.ofNat (101 : Nat)), (UInt8.ofNat (120 : Nat)), (UInt8.ofNat (112 : Nat)), (UInt8.ofNat (105 : Nat)), (UInt8.ofNat (114 : Nat)), (UInt8.ofNat (101 : Nat)), (UInt8.ofNat (100 : Nat))] (2 : Nat) (UInt8.ofBitVec (BitVec.ofFin (Fin.mk (0 : Nat) instInhabitedUInt8._proof_1)))), (Array.getD #[(UInt8.ofNat (101 : Nat)), (UInt8.ofNat (120 : Nat)), (UInt8.ofNat (112 : Nat)), (UInt8.ofNat (105 : Nat)), (UInt8.ofNat (114 : Nat)), (UInt8.ofNat (101 : Nat)), (UInt8.ofNat (100 : Nat))] (3 : Nat) (UInt8.ofBitVec (BitVec.ofFin (Fin.mk (0 : Nat) instInhabitedUInt8._proof_1)))), (Array.getD #[(UInt8.ofNat (101 : Nat)), (UInt8.ofNat (120 : Nat)), (UInt8.ofNat (112 : Nat)), (UInt8.ofNat (105 : Nat)), (UInt8.ofNat (114 : Nat)), (UInt8.ofNat (101 : Nat)), (UInt8.ofNat (100 : Nat))] (4 : Nat) (UInt8.ofBitVec (BitVec.ofFin (Fin.mk (0 : Nat) instInhabitedUInt8._proof_1)))), (Array.getD #[(UInt8.ofNat (101 : Nat)), (UInt8.ofNat (120 : Nat)), (UInt8.ofNat (112 : Nat)), (UInt8.ofNat (105 : Nat)), (UInt8.ofNat (114 : Nat)), (UInt8.ofNat (101 : Nat)), (UInt8.ofNat (100 : Nat))] (5 : Nat) (UInt8.ofBitVec (BitVec.ofFin (Fin.mk (0 : Nat) instInhabitedUInt8._proof_1)))), (Array.getD #[(UInt8.ofNat (101 : Nat)), (UInt8.ofNat (120 : Nat)), (UInt8.ofNat (112 : Nat)), (UInt8.ofNat (105 : Nat)), (UInt8.ofNat (114 : Nat)), (UInt8.ofNat (101 : Nat)), (UInt8.ofNat (100 : Nat))] (6 : Nat) (UInt8.ofBitVec (BitVec.ofFin (Fin.mk (0 : Nat) instInhabitedUInt8._proof_1))))] == (ByteArray.toList s)) then (some (True ∧ (Φ (AV.v (Value.tuple #[(Value.int IntKind.i64 (3 : Int)), (Value.bool true)]))))) else (bif ([(Array.getD #[(UInt8.ofNat (115 : Nat)), (UInt8.ofNat (112 : Nat)), (UInt8.ofNat (101 : Nat)), (UInt8.ofNat (110 : Nat)), (UInt8.ofNat (116 : Nat))] (0 : Nat) (UInt8.ofBitVec (BitVec.ofFin (Fin.mk (0 : Nat) instInhabitedUInt8._proof_1)))), (Array.getD #[(UInt8.ofNat (115 : Nat)), (UInt8.ofNat (112 : Nat)), (UInt8.ofNat (101 : Nat)), (UInt8.ofNat (110 : Nat)), (UInt8.ofNat (116 : Nat))] (1 : Nat) (UInt8.ofBitVec (BitVec.ofFin (Fin.mk (0 : Nat) instInhabitedUInt8._proof_1)))), (Array.getD #[(UInt8.ofNat (115 : Nat)), (UInt8.ofNat (112 : Nat)), (UInt8.ofNat (101 : Nat)), (UInt8.ofNat (110 : Nat)), (UInt8.ofNat (116 : Nat))] (2 : Nat) (UInt8.ofBitVec (BitVec.ofFin (Fin.mk (0 : Nat) instInhabitedUInt8._proof_1)))), (Array.getD #[(UInt8.ofNat (115 : Nat)), (UInt8.ofNat (112 : Nat)), (UInt8.ofNat (101 : Nat)), (UInt8.ofNat (110 : Nat)), (UInt8.ofNat (116 : Nat))] (3 : Nat) (UInt8.ofBitVec (BitVec.ofFin (Fin.mk (0 : Nat) instInhabitedUInt8._proof_1)))), (Array.getD #[(UInt8.ofNat (115 : Nat)), (UInt8.ofNat (112 : Nat)), (UInt8.ofNat (101 : Nat)), (UInt8.ofNat (110 : Nat)), (UInt8.ofNat (116 : Nat))] (4 : Nat) (UInt8.ofBitVec (BitVec.ofFin (Fin.mk (0 : Nat) instInhabitedUInt8._proof_1))))] == (ByteArray.toList s)) then (some (True ∧ (Φ (AV.v (Value.tuple #[(Value.int IntKind.i64 (4 : Int)), (Value.bool true)]))))) else (bif ([(Array.getD #[(UInt8.ofNat (101 : Nat)), (UInt8.ofNat (118 : Nat)), (UInt8.ofNat (105 : Nat)), (UInt8.ofNat (99 : Nat)), (UInt8.ofNat (116 : Nat)), (UInt8.ofNat (101 : Nat)), (UInt8.ofNat (100 : Nat))] (0 : Nat) (UInt8.ofBitVec (BitVec.ofFin (Fin.mk (0 : Nat) instInhabitedUInt8._proof_1)))), (Array.getD #[(UInt8.ofNat (101 : Nat)), (UInt8.ofNat (118 : Nat)), (UInt8.ofNat (105 : Nat)), (UInt8.ofNat (99 : Nat)), (UInt8.ofNat (116 : Nat)), (UInt8.ofNat (101 : Nat)), (UInt8.ofNat (100 : Nat))] (1 : Nat) (UInt8.ofBitVec (BitVec.ofFin (Fin.mk (0 : Nat) instInhabitedUInt8._proof_1)))), (Array.getD #[(UInt8.ofNat (101 : Nat)), (UInt8.ofNat (118 : Nat)), (UInt8.ofNat (105 : Nat)), (UInt8.ofNat (99 : Nat)), (UInt8.ofNat (116 : Nat)), (UInt8.ofNat (101 : Nat)), (UInt8.ofNat (100 : Nat))] (2 : Nat) (UInt8.ofBitVec (BitVec.ofFin (Fin.mk (0 : Nat) instInhabitedUInt8._proof_1)))), (Array.getD #[(UInt8.ofNat (101 : Nat)), (UInt8.ofNat (118 : Nat)), (UInt8.ofNat (105 : Nat)), (UInt8.ofNat (99 : Nat)), (UInt8.ofNat (116 : Nat)), (UInt8.ofNat (101 : Nat)), (UInt8.ofNat (100 : Nat))] (3 : Nat) (UInt8.ofBitVec (BitVec.ofFin (Fin.mk (0 : Nat) instInhabitedUInt8._proof_1)))), (Array.getD #[(UInt8.ofNat (101 : Nat)), (UInt8.ofNat (118 : Nat)), (UInt8.ofNat (105 : Nat)), (UInt8.ofNat (99 : Nat)), (UInt8.ofNat (116 : Nat)), (UInt8.ofNat (101 : Nat)), (UInt8.ofNat (100 : Nat))] (4 : Nat) (UInt8.ofBitVec (BitVec.ofFin (Fin.mk (0 : Nat) instInhabitedUInt8._proof_1)))), (Array.getD #[(UInt8.ofNat (101 : Nat)), (UInt8.ofNat (118 : Nat)), (UInt8.ofNat (105 : Nat)), (UInt8.ofNat (99 : Nat)), (UInt8.ofNat (116 : Nat)), (UInt8.ofNat (101 : Nat)), (UInt8.ofNat (100 : Nat))] (5 : Nat) (UInt8.ofBitVec (BitVec.ofFin (Fin.mk (0 : Nat) instInhabitedUInt8._proof_1)))), (Array.getD #[(UInt8.ofNat (101 : Nat)), (UInt8.ofNat (118 : Nat)), (UInt8.ofNat (105 : Nat)), (UInt8.ofNat (99 : Nat)), (UInt8.ofNat (116 : Nat)), (UInt8.ofNat (101 : Nat)), (UInt8.ofNat (100 : Nat))] (6 : Nat) (UInt8.ofBitVec (BitVec.ofFin (Fin.mk (0 : Nat) instInhabitedUInt8._proof_1))))] == (ByteArray.toList s)) then (some (True ∧ (Φ (AV.v (Value.tuple #[(Value.int IntKind.i64 (5 : Int)), (Value.bool true)]))))) else (bif ([(Array.getD #[(UInt8.ofNat (108 : Nat)), (UInt8.ofNat (97 : Nat)), (UInt8.ofNat (116 : Nat)), (UInt8.ofNat (101 : Nat))] (0 : Nat) (UInt8.ofBitVec (BitVec.ofFin (Fin.mk (0 : Nat) instInhabitedUInt8._proof_1)))), (Array.getD #[(UInt8.ofNat (108 : Nat)), (UInt8.ofNat (97 : Nat)), (UInt8.ofNat (116 : Nat)), (UInt8.ofNat (101 : Nat))] (1 : Nat) (UInt8.ofBitVec (BitVec.ofFin (Fin.mk (0 : Nat) instInhabitedUInt8._proof_1)))), (Array.getD #[(UInt8.ofNat (108 : Nat)), (UInt8.ofNat (97 : Nat)), (UInt8.ofNat (116 : Nat)), (UInt8.ofNat (101 : Nat))] (2 : Nat) (UInt8.ofBitVec (BitVec.ofFin (Fin.mk (0 : Nat) instInhabitedUInt8._proof_1)))), (Array.getD #[(UInt8.ofNat (108 : Nat)), (UInt8.ofNat (97 : Nat)), (UInt8.ofNat (116 : Nat)), (UInt8.ofNat (101 : Nat))] (3 : Nat) (UInt8.ofBitVec (BitVec.ofFin (Fin.mk (0 : Nat) instInhabitedUInt8._proof_1))))] == (ByteArray.toList s)) then (some (True ∧ (Φ (AV.v (Value.tuple #[(Value.int IntKind.i64 (6 : Int)), (Value.bool true)]))))) else (bif ([(Array.getD #[(UInt8.ofNat (102 : Nat)), (UInt8.ofNat (97 : Nat)), (UInt8.ofNat (105 : Nat)), (UInt8.ofNat (108 : Nat)), (UInt8.ofNat (101 : Nat)), (UInt8.ofNat (100 : Nat))] (0 : Nat) (UInt8.ofBitVec (BitVec.ofFin (Fin.mk (0 : Nat) instInhabitedUInt8._proof_1)))), (Array.getD #[(UInt8.ofNat (102 : Nat)), (UInt8.ofNat (97 : Nat)), (UInt8.ofNat (105 : Nat)), (UInt8.ofNat (108 : Nat)), (UInt8.ofNat (101 : Nat)), (UInt8.ofNat (100 : Nat))] (1 : Nat) (UInt8.ofBitVec (BitVec.ofFin (Fin.mk (0 : Nat) instInhabitedUInt8._proof_1)))), (Array.getD #[(UInt8.ofNat (102 : Nat)), (UInt8.ofNat (97 : Nat)), (UInt8.ofNat (105 : Nat)), (UInt8.ofNat (108 : Nat)), (UInt8.ofNat (101 : Nat)), (UInt8.ofNat (100 : Nat))] (2 : Nat) (UInt8.ofBitVec (BitVec.ofFin (Fin.mk (0 : Nat) instInhabitedUInt8._proof_1)))), (Array.getD #[(UInt8.ofNat (102 : Nat)), (UInt8.ofNat (97 : Nat)), (UInt8.ofNat (105 : Nat)), (UInt8.ofNat (108 : Nat)), (UInt8.ofNat (101 : Nat)), (UInt8.ofNat (100 : Nat))] (3 : Nat) (UInt8.ofBitVec (BitVec.ofFin (Fin.mk (0 : Nat) instInhabitedUInt8._proof_1)))), (Array.getD #[(UInt8.ofNat (102 : Nat)), (UInt8.ofNat (97 : Nat)), (UInt8.ofNat (105 : Nat)), (UInt8.ofNat (108 : Nat)), (UInt8.ofNat (101 : Nat)), (UInt8.ofNat (100 : Nat))] (4 : Nat) (UInt8.ofBitVec (BitVec.ofFin (Fin.mk (0 : Nat) instInhabitedUInt8._proof_1)))), (Array.getD #[(UInt8.ofNat (102 : Nat)), (UInt8.ofNat (97 : Nat)), (UInt8.ofNat (105 : Nat)), (UInt8.ofNat (108 : Nat)), (UInt8.ofNat (101 : Nat)), (UInt8.ofNat (100 : Nat))] (5 : Nat) (UInt8.ofBitVec (BitVec.ofFin (Fin.mk (0 : Nat) instInhabitedUInt8._proof_1))))] == (ByteArray.toList s)) then (some (True ∧ (Φ (AV.v (Value.tuple #[(Value.int IntKind.i64 (7 : Int)), (Value.bool true)]))))) else (bif ([(Array.getD #[(UInt8.ofNat (99 : Nat)), (UInt8.ofNat (117 : Nat)), (UInt8.ofNat (116 : Nat))] (0 : Nat) (UInt8.ofBitVec (BitVec.ofFin (Fin.mk (0 : Nat) instInhabitedUInt8._proof_1)))), (Array.getD #[(UInt8.ofNat (99 : Nat)), (UInt8.ofNat (117 : Nat)), (UInt8.ofNat (116 : Nat))] (1 : Nat) (UInt8.ofBitVec (BitVec.ofFin (Fin.mk (0 : Nat) instInhabitedUInt8._proof_1)))), (Array.getD #[(UInt8.ofNat (99 : Nat)), (UInt8.ofNat (117 : Nat)), (UInt8.ofNat (116 : Nat))] (2 : Nat) (UInt8.ofBitVec (BitVec.ofFin (Fin.mk (0 : Nat) instInhabitedUInt8._proof_1))))] == (ByteArray.toList s)) then (some (True ∧ (Φ (AV.v (Value.tuple #[(Value.int IntKind.i64 (8 : Int)), (Value.bool true)]))))) else (bif ([(Array.getD #[(UInt8.ofNat (115 : Nat)), (UInt8.ofNat (116 : Nat)), (UInt8.ofNat (97 : Nat)), (UInt8.ofNat (114 : Nat)), (UInt8.ofNat (118 : Nat)), (UInt8.ofNat (101 : Nat)), (UInt8.ofNat (100 : Nat))] (0 : Nat) (UInt8.ofBitVec (BitVec.ofFin (Fin.mk (0 : Nat) instInhabitedUInt8._proof_1)))), (Array.getD #[(UInt8.ofNat (115 : Nat)), (UInt8.ofNat (116 : Nat)), (UInt8.ofNat (97 : Nat)), (UInt8.ofNat (114 : Nat)), (UInt8.ofNat (118 : Nat)), (UInt8.ofNat (101 : Nat)), (UInt8.ofNat (100 : Nat))] (1 : Nat) (UInt8.ofBitVec (BitVec.ofFin (Fin.mk (0 : Nat) instInhabitedUInt8._proof_1)))), (Array.getD #[(UInt8.ofNat (115 : Nat)), (UInt8.ofNat (116 : Nat)), (UInt8.ofNat (97 : Nat)), (UInt8.ofNat (114 : Nat)), (UInt8.ofNat (118 : Nat)), (UInt8.ofNat (101 : Nat)), (UInt8.ofNat (100 : Nat))] (2 : Nat) (UInt8.ofBitVec (BitVec.ofFin (Fin.mk (0 : Nat) instInhabitedUInt8._proof_1)))), (Array.getD #[(UInt8.ofNat (115 : Nat)), (UInt8.ofNat (116 : Nat)), (UInt8.ofNat (97 : Nat)), (UInt8.ofNat (114 : Nat)), (UInt8.ofNat (118 : Nat)), (UInt8.ofNat (101 : Nat)), (UInt8.ofNat (100 : Nat))] (3 : Nat) (UInt8.ofBitVec (BitVec.ofFin (Fin.mk (0 : Nat) instInhabitedUInt8._proof_1)))), (Array.getD #[(UInt8.ofNat (115 : Nat)), (UInt8.ofNat (116 : Nat)), (UInt8.ofNat (97 : Nat)), (UInt8.ofNat (114 : Nat)), (UInt8.ofNat (118 : Nat)), (UInt8.ofNat (101 : Nat)), (UInt8.ofNat (100 : Nat))] (4 : Nat) (UInt8.ofBitVec (BitVec.ofFin (Fin.mk (0 : Nat) instInhabitedUInt8._proof_1)))), (Array.getD #[(UInt8.ofNat (115 : Nat)), (UInt8.ofNat (116 : Nat)), (UInt8.ofNat (97 : Nat)), (UInt8.ofNat (114 : Nat)), (UInt8.ofNat (118 : Nat)), (UInt8.ofNat (101 : Nat)), (UInt8.ofNat (100 : Nat))] (5 : Nat) (UInt8.ofBitVec (BitVec.ofFin (Fin.mk (0 : Nat) instInhabitedUInt8._proof_1)))), (Array.getD #[(UInt8.ofNat (115 : Nat)), (UInt8.ofNat (116 : Nat)), (UInt8.ofNat (97 : Nat)), (UInt8.ofNat (114 : Nat)), (UInt8.ofNat (118 : Nat)), (UInt8.ofNat (101 : Nat)), (UInt8.ofNat (100 : Nat))] (6 : Nat) (UInt8.ofBitVec (BitVec.ofFin (Fin.mk (0 : Nat) instInhabitedUInt8._proof_1))))] == (ByteArray.toList s)) then (some (True ∧ (Φ (AV.v (Value.tuple #[(Value.int IntKind.i64 (9 : Int)), (Value.bool true)]))))) else (bif ([(Array.getD #[(UInt8.ofNat (98 : Nat)), (UInt8.ofNat (114 : Nat)), (UInt8.ofNat (111 : Nat)), (UInt8.ofNat (107 : Nat)), (UInt8.ofNat (101 : Nat)), (UInt8.ofNat (110 : Nat))] (0 : Nat) (UInt8.ofBitVec (BitVec.ofFin (Fin.mk (0 : Nat) instInhabitedUInt8._proof_1)))), (Array.getD #[(UInt8.ofNat (98 : Nat)), (UInt8.ofNat (114 : Nat)), (UInt8.ofNat (111 : Nat)), (UInt8.ofNat (107 : Nat)), (UInt8.ofNat (101 : Nat)), (UInt8.ofNat (110 : Nat))] (1 : Nat) (UInt8.ofBitVec (BitVec.ofFin (Fin.mk (0 : Nat) instInhabitedUInt8._proof_1)))), (Array.getD #[(UInt8.ofNat (98 : Nat)), (UInt8.ofNat (114 : Nat)), (UInt8.ofNat (111 : Nat)), (UInt8.ofNat (107 : Nat)), (UInt8.ofNat (101 : Nat)), (UInt8.ofNat (110 : Nat))] (2 : Nat) (UInt8.ofBitVec (BitVec.ofFin (Fin.mk (0 : Nat) instInhabitedUInt8._proof_1)))), (Array.getD #[(UInt8.ofNat (98 : Nat)), (UInt8.ofNat (114 : Nat)), (UInt8.ofNat (111 : Nat)), (UInt8.ofNat (107 : Nat)), (UInt8.ofNat (101 : Nat)), (UInt8.ofNat (110 : Nat))] (3 : Nat) (UInt8.ofBitVec (BitVec.ofFin (Fin.mk (0 : Nat) instInhabitedUInt8._proof_1)))), (Array.getD #[(UInt8.ofNat (98 : Nat)), (UInt8.ofNat (114 : Nat)), (UInt8.ofNat (111 : Nat)), (UInt8.ofNat (107 : Nat)), (UInt8.ofNat (101 : Nat)), (UInt8.ofNat (110 : Nat))] (4 : Nat) (UInt8.ofBitVec (BitVec.ofFin (Fin.mk (0 : Nat) instInhabitedUInt8._proof_1)))), (Array.getD #[(UInt8.ofNat (98 : Nat)), (UInt8.ofNat (114 : Nat)), (UInt8.ofNat (111 : Nat)), (UInt8.ofNat (107 : Nat)), (UInt8.ofNat (101 : Nat)), (UInt8.ofNat (110 : Nat))] (5 : Nat) (UInt8.ofBitVec (BitVec.ofFin (Fin.mk (0 : Nat) instInhabitedUInt8._proof_1))))] == (ByteArray.toList s)) then (some (True ∧ (Φ (AV.v (Value.tuple #[(Value.int IntKind.i64 (10 : Int)), (Value.bool true)]))))) else (some (True ∧ (Φ (AV.v (Value.tuple #[(Value.int IntKind.i64 (0 : Int)), (Value.bool false)]))))))))))))))) := by kernel_rfl
theorem name_no {c : Int} (h : ¬ (1 ≤ c ∧ c ≤ 10)) : AV.v (.tuple #[.string ⟨#[]⟩, .bool false]) = AV.v (nameV c) := by
  unfold nameV nameS nameB; rw [if_neg h, decide_eq_false h]
theorem fs_name (c : Int) : Fs Tryd.prog ro25 14 [.v (.int .i64 c)] (hp [] []) fun r _ => r = .v (nameV c) := by
  refine Fs.of_call knownB (t_name c _) ?_
  refine holds_bif (fun h1 => holds_bif (fun h2 => ⟨trivial, name_no ?_⟩) (fun h2 => ?_)) (fun h1 => ⟨trivial, name_no ?_⟩)
  · have h2 : ¬ c ≤ 10 := by simpa using h2
    omega
  · have h1 := of_decide_eq_true h1
    have h2 : c ≤ 10 := by simpa using h2
    obtain rfl | rfl | rfl | rfl | rfl | rfl | rfl | rfl | rfl | rfl : c = 1 ∨ c = 2 ∨ c = 3 ∨ c = 4 ∨ c = 5 ∨ c = 6 ∨ c = 7 ∨ c = 8 ∨ c = 9 ∨ c = 10 := by omega
    all_goals exact ⟨cds_of (cdb_iff.2 ⟨trivial, by kernel_rfl⟩) (by kernel_rfl), by kernel_rfl⟩
  · have h1 := of_decide_eq_false h1
    omega
theorem fs_code (s : ByteArray) : Fs Tryd.prog ro25 15 [.v (.string s)] (hp [] []) fun r _ => r = .v (codeV s) := by
  refine Fs.of_call knownB (t_code s _) ?_

  refine holds_bif (fun h => ⟨trivial, ?_⟩) (fun h0 => ?_)
  · have h : (("good".toUTF8).toList == s.toList) = true := Eq.trans (by kernel_rfl) h
    rw [ba_inj] at h
    have h := of_decide_eq_true h
    subst h
    show _ = _
    kernel_rfl
  have h0 : (("good".toUTF8).toList == s.toList) = false := Eq.trans (by kernel_rfl) h0
  rw [ba_inj] at h0
  have h0 := of_decide_eq_false h0
  refine holds_bif (fun h => ⟨trivial, ?_⟩) (fun h1 => ?_)
  · have h : (("refused".toUTF8).toList == s.toList) = true := Eq.trans (by kernel_rfl) h
    rw [ba_inj] at h
    have h := of_decide_eq_true h
    subst h
    show _ = _
    kernel_rfl
  have h1 : (("refused".toUTF8).toList == s.toList) = false := Eq.trans (by kernel_rfl) h1
  rw [ba_inj] at h1
  have h1 := of_decide_eq_false h1
  refine holds_bif (fun h => ⟨trivial, ?_⟩) (fun h2 => ?_)
  · have h : (("expired".toUTF8).toList == s.toList) = true := Eq.trans (by kernel_rfl) h
    rw [ba_inj] at h
    have h := of_decide_eq_true h
    subst h
    show _ = _
    kernel_rfl
  have h2 : (("expired".toUTF8).toList == s.toList) = false := Eq.trans (by kernel_rfl) h2
  rw [ba_inj] at h2
  have h2 := of_decide_eq_false h2
  refine holds_bif (fun h => ⟨trivial, ?_⟩) (fun h3 => ?_)
  · have h : (("spent".toUTF8).toList == s.toList) = true := Eq.trans (by kernel_rfl) h
    rw [ba_inj] at h
    have h := of_decide_eq_true h
    subst h
    show _ = _
    kernel_rfl
  have h3 : (("spent".toUTF8).toList == s.toList) = false := Eq.trans (by kernel_rfl) h3
  rw [ba_inj] at h3
  have h3 := of_decide_eq_false h3
  refine holds_bif (fun h => ⟨trivial, ?_⟩) (fun h4 => ?_)
  · have h : (("evicted".toUTF8).toList == s.toList) = true := Eq.trans (by kernel_rfl) h
    rw [ba_inj] at h
    have h := of_decide_eq_true h
    subst h
    show _ = _
    kernel_rfl
  have h4 : (("evicted".toUTF8).toList == s.toList) = false := Eq.trans (by kernel_rfl) h4
  rw [ba_inj] at h4
  have h4 := of_decide_eq_false h4
  refine holds_bif (fun h => ⟨trivial, ?_⟩) (fun h5 => ?_)
  · have h : (("late".toUTF8).toList == s.toList) = true := Eq.trans (by kernel_rfl) h
    rw [ba_inj] at h
    have h := of_decide_eq_true h
    subst h
    show _ = _
    kernel_rfl
  have h5 : (("late".toUTF8).toList == s.toList) = false := Eq.trans (by kernel_rfl) h5
  rw [ba_inj] at h5
  have h5 := of_decide_eq_false h5
  refine holds_bif (fun h => ⟨trivial, ?_⟩) (fun h6 => ?_)
  · have h : (("failed".toUTF8).toList == s.toList) = true := Eq.trans (by kernel_rfl) h
    rw [ba_inj] at h
    have h := of_decide_eq_true h
    subst h
    show _ = _
    kernel_rfl
  have h6 : (("failed".toUTF8).toList == s.toList) = false := Eq.trans (by kernel_rfl) h6
  rw [ba_inj] at h6
  have h6 := of_decide_eq_false h6
  refine holds_bif (fun h => ⟨trivial, ?_⟩) (fun h7 => ?_)
  · have h : (("cut".toUTF8).toList == s.toList) = true := Eq.trans (by kernel_rfl) h
    rw [ba_inj] at h
    have h := of_decide_eq_true h
    subst h
    show _ = _
    kernel_rfl
  have h7 : (("cut".toUTF8).toList == s.toList) = false := Eq.trans (by kernel_rfl) h7
  rw [ba_inj] at h7
  have h7 := of_decide_eq_false h7
  refine holds_bif (fun h => ⟨trivial, ?_⟩) (fun h8 => ?_)
  · have h : (("starved".toUTF8).toList == s.toList) = true := Eq.trans (by kernel_rfl) h
    rw [ba_inj] at h
    have h := of_decide_eq_true h
    subst h
    show _ = _
    kernel_rfl
  have h8 : (("starved".toUTF8).toList == s.toList) = false := Eq.trans (by kernel_rfl) h8
  rw [ba_inj] at h8
  have h8 := of_decide_eq_false h8
  refine holds_bif (fun h => ⟨trivial, ?_⟩) (fun h9 => ?_)
  · have h : (("broken".toUTF8).toList == s.toList) = true := Eq.trans (by kernel_rfl) h
    rw [ba_inj] at h
    have h := of_decide_eq_true h
    subst h
    show _ = _
    kernel_rfl
  have h9 : (("broken".toUTF8).toList == s.toList) = false := Eq.trans (by kernel_rfl) h9
  rw [ba_inj] at h9
  have h9 := of_decide_eq_false h9
  refine ⟨trivial, ?_⟩
  have e := code_none h0 h1 h2 h3 h4 h5 h6 h7 h8 h9
  unfold codeV codeB
  rw [e]; rfl
end Go.Proofs.YtemjnfncncmbdaaDoor.AE
namespace Go.Proofs.YtemjnfncncmbdaaDoor.AE
open Go.RowKit Oc
def getP25 : List Value → Option (Value × Bool) := fun us => match us with
  | [.string s] => some (getV s, decide (s.size ≤ maxLen))
  | _ => none
theorem get_of {g : FuncId} (hg : ∀ s : ByteArray, s.size ≤ maxLen → Fs Tryd.prog ro25 g [.v (.string s)] (hp [] []) fun r _ => r = .v (getV s)) : ∀ us c, getP25 us = some (c, true) → Fs Tryd.prog ro25 g (us.map .v) (hp [] []) fun r _ => r = .v c := by
  intro us c h
  unfold getP25 at h
  split at h
  · simp only [Option.some.injEq, Prod.mk.injEq, decide_eq_true_eq] at h
    obtain ⟨rfl, h2⟩ := h
    exact hg _ h2
  · cases h
def nameP : List Value → Option (Value × Bool) := fun us => match us with
  | [.int .i64 c] => some (nameV c, true)
  | _ => none
theorem name_of : ∀ us c, nameP us = some (c, true) → Fs Tryd.prog ro25 14 (us.map .v) (hp [] []) fun r _ => r = .v c := by
  intro us c h
  unfold nameP at h
  split at h
  · simp only [Option.some.injEq, Prod.mk.injEq] at h
    obtain ⟨rfl, -⟩ := h
    exact fs_name _
  · cases h
def codeP : List Value → Option (Value × Bool) := fun us => match us with
  | [.string s] => some (codeV s, true)
  | _ => none
theorem code_of : ∀ us c, codeP us = some (c, true) → Fs Tryd.prog ro25 15 (us.map .v) (hp [] []) fun r _ => r = .v c := by
  intro us c h
  unfold codeP at h
  split at h
  · simp only [Option.some.injEq, Prod.mk.injEq] at h
    obtain ⟨rfl, -⟩ := h
    exact fs_code _
  · cases h
noncomputable def prC : FuncId → Option (List AV → AH → Ans) := fun g => match g with
  | 6 => some (pure? (sixP putV))
  | 7 => some (pure? (sixP putV))
  | 12 => some (pure? getP25)
  | 13 => some (pure? getP25)
  | 14 => some (pure? nameP)
  | 15 => some (pure? codeP)
  | g => prB g
theorem knownC : Known ro25 prC := by
  intro g p h
  unfold prC at h
  split at h
  · cases h; exact pure_ok (six_of fs_put) (has_fn (by kernel_rfl))
  · cases h; exact pure_ok (six_of fs_rput) (has_fn (by kernel_rfl))
  · cases h; exact pure_ok (get_of fs_get) (has_fn (by kernel_rfl))
  · cases h; exact pure_ok (get_of fs_rget) (has_fn (by kernel_rfl))
  · cases h; exact pure_ok name_of (has_fn (by kernel_rfl))
  · cases h; exact pure_ok code_of (has_fn (by kernel_rfl))
  · exact knownB _ p h
def muC : FuncId → Bool := fun g => (g == 8 + 1000000) || (g == 9 + 1000000) || (g == 6 + 1000000) || (g == 12 + 1000000)
theorem flatC : Flats muC prC := by
  intro g h
  unfold muC at h
  simp only [Bool.or_eq_true] at h
  rcases h with ((h | h) | h) | h
  all_goals
    have h := Nat.add_right_cancel (eq_of_beq h)
    subst h
    exact ⟨_, rfl, pure_flat _⟩
theorem t_awake (Φ : AV → Prop) : callK ro25 muC prC 10 11 [] (hp [] []) (fun r h => some (h.cd ∧ Φ r)) =
    (some (True ∧ (Φ (AV.v (Value.bool true))))) := by kernel_rfl
end Go.Proofs.YtemjnfncncmbdaaDoor.AE
namespace Go.Proofs.YtemjnfncncmbdaaDoor.AE
open Go.RowKit Oc
theorem awake_of : ∀ us c, awakeS us = some (c, true) → Fs Tryd.prog ro25 11 (us.map .v) (hp [] []) fun r _ => r = .v c := by
  intro us c h
  unfold awakeS at h
  split at h
  · cases h
    exact Fs.of_call knownC (t_awake _) ⟨trivial, rfl⟩ flatC
  · cases h
noncomputable def prD : FuncId → Option (List AV → AH → Ans) := fun g => match g with
  | 11 => some (pure? awakeS)
  | g => prC g
theorem knownD : Known ro25 prD := by
  intro g p h
  unfold prD at h
  split at h
  · cases h; exact pure_ok awake_of (has_fn (by kernel_rfl))
  · exact knownC _ p h
def muD : FuncId → Bool := fun g => (g == 8 + 1000000) || (g == 9 + 1000000) || (g == 6 + 1000000) || (g == 12 + 1000000) || (g == 11 + 1000000)
theorem flatD : Flats muD prD := by
  intro g h
  unfold muD at h
  simp only [Bool.or_eq_true] at h
  rcases h with (((h | h) | h) | h) | h
  all_goals
    have h := Nat.add_right_cancel (eq_of_beq h)
    subst h
    exact ⟨_, rfl, pure_flat _⟩
def rq (g : Nat → Int) : AV := .v (.agg #[.int .i64 (g 0), .int .i64 (g 1), .int .i64 (g 2), .int .i64 (g 3), .int .i64 (g 4), .int .i64 (g 5)])
theorem t_ReplyPuts (f g : Nat → Int) (Φ : AV → Prop) : callK ro25 muD prD 10 3 [req f, rq g] (hp [] []) (fun r h => some (h.cd ∧ Φ r)) =
    (bif ((chk25 (six [(f (0 : Nat)), (f (1 : Nat)), (f (2 : Nat)), (f (3 : Nat)), (f (4 : Nat)), (f (5 : Nat)), (f (6 : Nat))])) == (chk25 (six [(f (0 : Nat)), (f (1 : Nat)), (f (2 : Nat)), (f (3 : Nat)), (f (4 : Nat)), (f (5 : Nat)), (f (6 : Nat))]))) then (bif ((ByteArray.toList (putR (six [(f (0 : Nat)), (f (1 : Nat)), (f (2 : Nat)), (f (3 : Nat)), (f (4 : Nat)), (f (5 : Nat)), (f (6 : Nat))]))) == (ByteArray.toList (putR (six [(f (0 : Nat)), (f (1 : Nat)), (f (2 : Nat)), (f (3 : Nat)), (f (4 : Nat)), (f (5 : Nat)), (f (6 : Nat))])))) then (bif ((chk25 (six [(f (0 : Nat)), (f (1 : Nat)), (f (2 : Nat)), (f (3 : Nat)), (f (4 : Nat)), (f (5 : Nat)), (f (6 : Nat))])) == (chk25 (six [(f (0 : Nat)), (f (1 : Nat)), (f (2 : Nat)), (f (3 : Nat)), (f (4 : Nat)), (f (5 : Nat)), (f (6 : Nat))]))) then (bif (((g (0 : Nat)) == (g (0 : Nat))) && (((g (2 : Nat)) == (g (2 : Nat))) && (((g (1 : Nat)) == (g (1 : Nat))) && (((f (3 : Nat)) == (f (3 : Nat))) && (((f (4 : Nat)) == (f (4 : Nat))) && (((f (5 : Nat)) == (f (5 : Nat))) && (((f (6 : Nat)) == (f (6 : Nat))) && true))))))) then (some (True ∧ (Φ (AV.v (Value.bool true))))) else (some (True ∧ (Φ (AV.v (Value.bool false)))))) else (some (True ∧ (Φ (AV.v (Value.bool false)))))) else (some (True ∧ (Φ (AV.v (Value.bool false)))))) else (some (True ∧ (Φ (AV.v (Value.bool false)))))) := by kernel_rfl
theorem t_ReplyBack (f : Nat → Int) (s : ByteArray) (Φ : AV → Prop) : callK ro25 muD prD 10 5 [req f, .v (.string s)] (hp [] []) (fun r h => some (h.cd ∧ Φ r)) =
    (bif (decide ((40 : Int) < ((ByteArray.size s) : Int))) then (some (True ∧ (Φ (AV.v (Value.bool true))))) else (bif ((chk25 (six [(f (0 : Nat)), (f (1 : Nat)), (f (2 : Nat)), (f (3 : Nat)), (f (4 : Nat)), (f (5 : Nat)), (f (6 : Nat))])) == (0 : Int)) then (bif (!(((getN (putR (six [(f (0 : Nat)), (f (1 : Nat)), (f (2 : Nat)), (f (3 : Nat)), (f (4 : Nat)), (f (5 : Nat)), (f (6 : Nat))])) (0 : Nat)) == (f (0 : Nat))) && (((getN (putR (six [(f (0 : Nat)), (f (1 : Nat)), (f (2 : Nat)), (f (3 : Nat)), (f (4 : Nat)), (f (5 : Nat)), (f (6 : Nat))])) (1 : Nat)) == (f (1 : Nat))) && (((getN (putR (six [(f (0 : Nat)), (f (1 : Nat)), (f (2 : Nat)), (f (3 : Nat)), (f (4 : Nat)), (f (5 : Nat)), (f (6 : Nat))])) (2 : Nat)) == (f (2 : Nat))) && (((getN (putR (six [(f (0 : Nat)), (f (1 : Nat)), (f (2 : Nat)), (f (3 : Nat)), (f (4 : Nat)), (f (5 : Nat)), (f (6 : Nat))])) (3 : Nat)) == (f (3 : Nat))) && (((getN (putR (six [(f (0 : Nat)), (f (1 : Nat)), (f (2 : Nat)), (f (3 : Nat)), (f (4 : Nat)), (f (5 : Nat)), (f (6 : Nat))])) (4 : Nat)) == (f (4 : Nat))) && (((getN (putR (six [(f (0 : Nat)), (f (1 : Nat)), (f (2 : Nat)), (f (3 : Nat)), (f (4 : Nat)), (f (5 : Nat)), (f (6 : Nat))])) (5 : Nat)) == (f (5 : Nat))) && (((getN (putR (six [(f (0 : Nat)), (f (1 : Nat)), (f (2 : Nat)), (f (3 : Nat)), (f (4 : Nat)), (f (5 : Nat)), (f (6 : Nat))])) (6 : Nat)) == (f (6 : Nat))) && true)))))))) then (some ((cdb True (decide ((ByteArray.size (putR (six [(f (0 : Nat)), (f (1 : Nat)), (f (2 : Nat)), (f (3 : Nat)), (f (4 : Nat)), (f (5 : Nat)), (f (6 : Nat))]))) ≤ (9223372036854775807 : Nat)))) ∧ (Φ (AV.v (Value.bool false))))) else (bif ((getE (putR (six [(f (0 : Nat)), (f (1 : Nat)), (f (2 : Nat)), (f (3 : Nat)), (f (4 : Nat)), (f (5 : Nat)), (f (6 : Nat))]))) != (0 : Int)) then (some ((cdb True (decide ((ByteArray.size (putR (six [(f (0 : Nat)), (f (1 : Nat)), (f (2 : Nat)), (f (3 : Nat)), (f (4 : Nat)), (f (5 : Nat)), (f (6 : Nat))]))) ≤ (9223372036854775807 : Nat)))) ∧ (Φ (AV.v (Value.bool false))))) else (bif (((ByteArray.size (putR (six [(f (0 : Nat)), (f (1 : Nat)), (f (2 : Nat)), (f (3 : Nat)), (f (4 : Nat)), (f (5 : Nat)), (f (6 : Nat))]))) : Int) != (15 : Int)) then (some ((cdb True (decide ((ByteArray.size (putR (six [(f (0 : Nat)), (f (1 : Nat)), (f (2 : Nat)), (f (3 : Nat)), (f (4 : Nat)), (f (5 : Nat)), (f (6 : Nat))]))) ≤ (9223372036854775807 : Nat)))) ∧ (Φ (AV.v (Value.bool false))))) else (bif ((chk25 (six [(f (0 : Nat)), (f (1 : Nat)), (f (2 : Nat)), (f (3 : Nat)), (f (4 : Nat)), (f (5 : Nat)), (f (6 : Nat))])) != (0 : Int)) then (bif ((chk25 (six [(f (0 : Nat)), (f (1 : Nat)), (f (2 : Nat)), (f (3 : Nat)), (f (4 : Nat)), (f (5 : Nat)), (f (6 : Nat))])) != (1 : Int)) then (some ((cdb True (decide ((ByteArray.size (putR (six [(f (0 : Nat)), (f (1 : Nat)), (f (2 : Nat)), (f (3 : Nat)), (f (4 : Nat)), (f (5 : Nat)), (f (6 : Nat))]))) ≤ (9223372036854775807 : Nat)))) ∧ (Φ (AV.v (Value.bool false))))) else (bif (!((ByteArray.toList (putR (six [(f (0 : Nat)), (f (1 : Nat)), (f (2 : Nat)), (f (3 : Nat)), (f (4 : Nat)), (f (5 : Nat)), (f (6 : Nat))]))) == (@List.nil UInt8))) then (some ((cdb True (decide ((ByteArray.size (putR (six [(f (0 : Nat)), (f (1 : Nat)), (f (2 : Nat)), (f (3 : Nat)), (f (4 : Nat)), (f (5 : Nat)), (f (6 : Nat))]))) ≤ (9223372036854775807 : Nat)))) ∧ (Φ (AV.v (Value.bool false))))) else (bif ((getE s) != (0 : Int)) then (bif ((nameB (f (3 : Nat))) == (codeB (nameS (f (3 : Nat))))) then (bif (!(nameB (f (3 : Nat)))) then (some ((cdb (cdb True (decide ((ByteArray.size (putR (six [(f (0 : Nat)), (f (1 : Nat)), (f (2 : Nat)), (f (3 : Nat)), (f (4 : Nat)), (f (5 : Nat)), (f (6 : Nat))]))) ≤ (9223372036854775807 : Nat)))) (decide ((ByteArray.size s) ≤ (9223372036854775807 : Nat)))) ∧ (Φ (AV.v (Value.bool true))))) else (bif ((codeI (nameS (f (3 : Nat)))) == (f (3 : Nat))) then (some ((cdb (cdb True (decide ((ByteArray.size (putR (six [(f (0 : Nat)), (f (1 : Nat)), (f (2 : Nat)), (f (3 : Nat)), (f (4 : Nat)), (f (5 : Nat)), (f (6 : Nat))]))) ≤ (9223372036854775807 : Nat)))) (decide ((ByteArray.size s) ≤ (9223372036854775807 : Nat)))) ∧ (Φ (AV.v (Value.bool true))))) else (some ((cdb (cdb True (decide ((ByteArray.size (putR (six [(f (0 : Nat)), (f (1 : Nat)), (f (2 : Nat)), (f (3 : Nat)), (f (4 : Nat)), (f (5 : Nat)), (f (6 : Nat))]))) ≤ (9223372036854775807 : Nat)))) (decide ((ByteArray.size s) ≤ (9223372036854775807 : Nat)))) ∧ (Φ (AV.v (Value.bool false))))))) else (some ((cdb (cdb True (decide ((ByteArray.size (putR (six [(f (0 : Nat)), (f (1 : Nat)), (f (2 : Nat)), (f (3 : Nat)), (f (4 : Nat)), (f (5 : Nat)), (f (6 : Nat))]))) ≤ (9223372036854775807 : Nat)))) (decide ((ByteArray.size s) ≤ (9223372036854775807 : Nat)))) ∧ (Φ (AV.v (Value.bool false)))))) else (bif ((chk25 (six [(getN s (0 : Nat)), (getN s (1 : Nat)), (getN s (2 : Nat)), (getN s (3 : Nat)), (getN s (4 : Nat)), (getN s (5 : Nat)), (getN s (6 : Nat))])) == (0 : Int)) then (bif ((ByteArray.toList (putR (six [(getN s (0 : Nat)), (getN s (1 : Nat)), (getN s (2 : Nat)), (getN s (3 : Nat)), (getN s (4 : Nat)), (getN s (5 : Nat)), (getN s (6 : Nat))]))) == (ByteArray.toList s)) then (bif ((nameB (f (3 : Nat))) == (codeB (nameS (f (3 : Nat))))) then (bif (!(nameB (f (3 : Nat)))) then (some ((cdb (cdb True (decide ((ByteArray.size (putR (six [(f (0 : Nat)), (f (1 : Nat)), (f (2 : Nat)), (f (3 : Nat)), (f (4 : Nat)), (f (5 : Nat)), (f (6 : Nat))]))) ≤ (9223372036854775807 : Nat)))) (decide ((ByteArray.size s) ≤ (9223372036854775807 : Nat)))) ∧ (Φ (AV.v (Value.bool true))))) else (bif ((codeI (nameS (f (3 : Nat)))) == (f (3 : Nat))) then (some ((cdb (cdb True (decide ((ByteArray.size (putR (six [(f (0 : Nat)), (f (1 : Nat)), (f (2 : Nat)), (f (3 : Nat)), (f (4 : Nat)), (f (5 : Nat)), (f (6 : Nat))]))) ≤ (9223372036854775807 : Nat)))) (decide ((ByteArray.size s) ≤ (9223372036854775807 : Nat)))) ∧ (Φ (AV.v (Value.bool true))))) else (some ((cdb (cdb True (decide ((ByteArray.size (putR (six [(f (0 : Nat)), (f (1 : Nat)), (f (2 : Nat)), (f (3 : Nat)), (f (4 : Nat)), (f (5 : Nat)), (f (6 : Nat))]))) ≤ (9223372036854775807 : Nat)))) (decide ((ByteArray.size s) ≤ (9223372036854775807 : Nat)))) ∧ (Φ (AV.v (Value.bool false))))))) else (some ((cdb (cdb True (decide ((ByteArray.size (putR (six [(f (0 : Nat)), (f (1 : Nat)), (f (2 : Nat)), (f (3 : Nat)), (f (4 : Nat)), (f (5 : Nat)), (f (6 : Nat))]))) ≤ (9223372036854775807 : Nat)))) (decide ((ByteArray.size s) ≤ (9223372036854775807 : Nat)))) ∧ (Φ (AV.v (Value.bool false)))))) else (some ((cdb (cdb True (decide ((ByteArray.size (putR (six [(f (0 : Nat)), (f (1 : Nat)), (f (2 : Nat)), (f (3 : Nat)), (f (4 : Nat)), (f (5 : Nat)), (f (6 : Nat))]))) ≤ (9223372036854775807 : Nat)))) (decide ((ByteArray.size s) ≤ (9223372036854775807 : Nat)))) ∧ (Φ (AV.v (Value.bool false)))))) else (some ((cdb (cdb True (decide ((ByteArray.size (putR (six [(f (0 : Nat)), (f (1 : Nat)), (f (2 : Nat)), (f (3 : Nat)), (f (4 : Nat)), (f (5 : Nat)), (f (6 : Nat))]))) ≤ (9223372036854775807 : Nat)))) (decide ((ByteArray.size s) ≤ (9223372036854775807 : Nat)))) ∧ (Φ (AV.v (Value.bool false))))))))) else (bif ((getE s) != (0 : Int)) then (bif ((nameB (f (3 : Nat))) == (codeB (nameS (f (3 : Nat))))) then (bif (!(nameB (f (3 : Nat)))) then (some ((cdb (cdb True (decide ((ByteArray.size (putR (six [(f (0 : Nat)), (f (1 : Nat)), (f (2 : Nat)), (f (3 : Nat)), (f (4 : Nat)), (f (5 : Nat)), (f (6 : Nat))]))) ≤ (9223372036854775807 : Nat)))) (decide ((ByteArray.size s) ≤ (9223372036854775807 : Nat)))) ∧ (Φ (AV.v (Value.bool true))))) else (bif ((codeI (nameS (f (3 : Nat)))) == (f (3 : Nat))) then (some ((cdb (cdb True (decide ((ByteArray.size (putR (six [(f (0 : Nat)), (f (1 : Nat)), (f (2 : Nat)), (f (3 : Nat)), (f (4 : Nat)), (f (5 : Nat)), (f (6 : Nat))]))) ≤ (9223372036854775807 : Nat)))) (decide ((ByteArray.size s) ≤ (9223372036854775807 : Nat)))) ∧ (Φ (AV.v (Value.bool true))))) else (some ((cdb (cdb True (decide ((ByteArray.size (putR (six [(f (0 : Nat)), (f (1 : Nat)), (f (2 : Nat)), (f (3 : Nat)), (f (4 : Nat)), (f (5 : Nat)), (f (6 : Nat))]))) ≤ (9223372036854775807 : Nat)))) (decide ((ByteArray.size s) ≤ (9223372036854775807 : Nat)))) ∧ (Φ (AV.v (Value.bool false))))))) else (some ((cdb (cdb True (decide ((ByteArray.size (putR (six [(f (0 : Nat)), (f (1 : Nat)), (f (2 : Nat)), (f (3 : Nat)), (f (4 : Nat)), (f (5 : Nat)), (f (6 : Nat))]))) ≤ (9223372036854775807 : Nat)))) (decide ((ByteArray.size s) ≤ (9223372036854775807 : Nat)))) ∧ (Φ (AV.v (Value.bool false)))))) else (bif ((chk25 (six [(getN s (0 : Nat)), (getN s (1 : Nat)), (getN s (2 : Nat)), (getN s (3 : Nat)), (getN s (4 : Nat)), (getN s (5 : Nat)), (getN s (6 : Nat))])) == (0 : Int)) then (bif ((ByteArray.toList (putR (six [(getN s (0 : Nat)), (getN s (1 : Nat)), (getN s (2 : Nat)), (getN s (3 : Nat)), (getN s (4 : Nat)), (getN s (5 : Nat)), (getN s (6 : Nat))]))) == (ByteArray.toList s)) then (bif ((nameB (f (3 : Nat))) == (codeB (nameS (f (3 : Nat))))) then (bif (!(nameB (f (3 : Nat)))) then (some ((cdb (cdb True (decide ((ByteArray.size (putR (six [(f (0 : Nat)), (f (1 : Nat)), (f (2 : Nat)), (f (3 : Nat)), (f (4 : Nat)), (f (5 : Nat)), (f (6 : Nat))]))) ≤ (9223372036854775807 : Nat)))) (decide ((ByteArray.size s) ≤ (9223372036854775807 : Nat)))) ∧ (Φ (AV.v (Value.bool true))))) else (bif ((codeI (nameS (f (3 : Nat)))) == (f (3 : Nat))) then (some ((cdb (cdb True (decide ((ByteArray.size (putR (six [(f (0 : Nat)), (f (1 : Nat)), (f (2 : Nat)), (f (3 : Nat)), (f (4 : Nat)), (f (5 : Nat)), (f (6 : Nat))]))) ≤ (9223372036854775807 : Nat)))) (decide ((ByteArray.size s) ≤ (9223372036854775807 : Nat)))) ∧ (Φ (AV.v (Value.bool true))))) else (some ((cdb (cdb True (decide ((ByteArray.size (putR (six [(f (0 : Nat)), (f (1 : Nat)), (f (2 : Nat)), (f (3 : Nat)), (f (4 : Nat)), (f (5 : Nat)), (f (6 : Nat))]))) ≤ (9223372036854775807 : Nat)))) (decide ((ByteArray.size s) ≤ (9223372036854775807 : Nat)))) ∧ (Φ (AV.v (Value.bool false))))))) else (some ((cdb (cdb True (decide ((ByteArray.size (putR (six [(f (0 : Nat)), (f (1 : Nat)), (f (2 : Nat)), (f (3 : Nat)), (f (4 : Nat)), (f (5 : Nat)), (f (6 : Nat))]))) ≤ (9223372036854775807 : Nat)))) (decide ((ByteArray.size s) ≤ (9223372036854775807 : Nat)))) ∧ (Φ (AV.v (Value.bool false)))))) else (some ((cdb (cdb True (decide ((ByteArray.size (putR (six [(f (0 : Nat)), (f (1 : Nat)), (f (2 : Nat)), (f (3 : Nat)), (f (4 : Nat)), (f (5 : Nat)), (f (6 : Nat))]))) ≤ (9223372036854775807 : Nat)))) (decide ((ByteArray.size s) ≤ (9223372036854775807 : Nat)))) ∧ (Φ (AV.v (Value.bool false)))))) else (some ((cdb (cdb True (decide ((ByteArray.size (putR (six [(f (0 : Nat)), (f (1 : Nat)), (f (2 : Nat)), (f (3 : Nat)), (f (4 : Nat)), (f (5 : Nat)), (f (6 : Nat))]))) ≤ (9223372036854775807 : Nat)))) (decide ((ByteArray.size s) ≤ (9223372036854775807 : Nat)))) ∧ (Φ (AV.v (Value.bool false))))))))))) else (bif ((chk25 (six [(f (0 : Nat)), (f (1 : Nat)), (f (2 : Nat)), (f (3 : Nat)), (f (4 : Nat)), (f (5 : Nat)), (f (6 : Nat))])) != (0 : Int)) then (bif ((chk25 (six [(f (0 : Nat)), (f (1 : Nat)), (f (2 : Nat)), (f (3 : Nat)), (f (4 : Nat)), (f (5 : Nat)), (f (6 : Nat))])) != (1 : Int)) then (some ((cdb True (decide ((ByteArray.size (putR (six [(f (0 : Nat)), (f (1 : Nat)), (f (2 : Nat)), (f (3 : Nat)), (f (4 : Nat)), (f (5 : Nat)), (f (6 : Nat))]))) ≤ (9223372036854775807 : Nat)))) ∧ (Φ (AV.v (Value.bool false))))) else (bif (!((ByteArray.toList (putR (six [(f (0 : Nat)), (f (1 : Nat)), (f (2 : Nat)), (f (3 : Nat)), (f (4 : Nat)), (f (5 : Nat)), (f (6 : Nat))]))) == (@List.nil UInt8))) then (some ((cdb True (decide ((ByteArray.size (putR (six [(f (0 : Nat)), (f (1 : Nat)), (f (2 : Nat)), (f (3 : Nat)), (f (4 : Nat)), (f (5 : Nat)), (f (6 : Nat))]))) ≤ (9223372036854775807 : Nat)))) ∧ (Φ (AV.v (Value.bool false))))) else (bif ((getE s) != (0 : Int)) then (bif ((nameB (f (3 : Nat))) == (codeB (nameS (f (3 : Nat))))) then (bif (!(nameB (f (3 : Nat)))) then (some ((cdb (cdb True (decide ((ByteArray.size (putR (six [(f (0 : Nat)), (f (1 : Nat)), (f (2 : Nat)), (f (3 : Nat)), (f (4 : Nat)), (f (5 : Nat)), (f (6 : Nat))]))) ≤ (9223372036854775807 : Nat)))) (decide ((ByteArray.size s) ≤ (9223372036854775807 : Nat)))) ∧ (Φ (AV.v (Value.bool true))))) else (bif ((codeI (nameS (f (3 : Nat)))) == (f (3 : Nat))) then (some ((cdb (cdb True (decide ((ByteArray.size (putR (six [(f (0 : Nat)), (f (1 : Nat)), (f (2 : Nat)), (f (3 : Nat)), (f (4 : Nat)), (f (5 : Nat)), (f (6 : Nat))]))) ≤ (9223372036854775807 : Nat)))) (decide ((ByteArray.size s) ≤ (9223372036854775807 : Nat)))) ∧ (Φ (AV.v (Value.bool true))))) else (some ((cdb (cdb True (decide ((ByteArray.size (putR (six [(f (0 : Nat)), (f (1 : Nat)), (f (2 : Nat)), (f (3 : Nat)), (f (4 : Nat)), (f (5 : Nat)), (f (6 : Nat))]))) ≤ (9223372036854775807 : Nat)))) (decide ((ByteArray.size s) ≤ (9223372036854775807 : Nat)))) ∧ (Φ (AV.v (Value.bool false))))))) else (some ((cdb (cdb True (decide ((ByteArray.size (putR (six [(f (0 : Nat)), (f (1 : Nat)), (f (2 : Nat)), (f (3 : Nat)), (f (4 : Nat)), (f (5 : Nat)), (f (6 : Nat))]))) ≤ (9223372036854775807 : Nat)))) (decide ((ByteArray.size s) ≤ (9223372036854775807 : Nat)))) ∧ (Φ (AV.v (Value.bool false)))))) else (bif ((chk25 (six [(getN s (0 : Nat)), (getN s (1 : Nat)), (getN s (2 : Nat)), (getN s (3 : Nat)), (getN s (4 : Nat)), (getN s (5 : Nat)), (getN s (6 : Nat))])) == (0 : Int)) then (bif ((ByteArray.toList (putR (six [(getN s (0 : Nat)), (getN s (1 : Nat)), (getN s (2 : Nat)), (getN s (3 : Nat)), (getN s (4 : Nat)), (getN s (5 : Nat)), (getN s (6 : Nat))]))) == (ByteArray.toList s)) then (bif ((nameB (f (3 : Nat))) == (codeB (nameS (f (3 : Nat))))) then (bif (!(nameB (f (3 : Nat)))) then (some ((cdb (cdb True (decide ((ByteArray.size (putR (six [(f (0 : Nat)), (f (1 : Nat)), (f (2 : Nat)), (f (3 : Nat)), (f (4 : Nat)), (f (5 : Nat)), (f (6 : Nat))]))) ≤ (9223372036854775807 : Nat)))) (decide ((ByteArray.size s) ≤ (9223372036854775807 : Nat)))) ∧ (Φ (AV.v (Value.bool true))))) else (bif ((codeI (nameS (f (3 : Nat)))) == (f (3 : Nat))) then (some ((cdb (cdb True (decide ((ByteArray.size (putR (six [(f (0 : Nat)), (f (1 : Nat)), (f (2 : Nat)), (f (3 : Nat)), (f (4 : Nat)), (f (5 : Nat)), (f (6 : Nat))]))) ≤ (9223372036854775807 : Nat)))) (decide ((ByteArray.size s) ≤ (9223372036854775807 : Nat)))) ∧ (Φ (AV.v (Value.bool true))))) else (some ((cdb (cdb True (decide ((ByteArray.size (putR (six [(f (0 : Nat)), (f (1 : Nat)), (f (2 : Nat)), (f (3 : Nat)), (f (4 : Nat)), (f (5 : Nat)), (f (6 : Nat))]))) ≤ (9223372036854775807 : Nat)))) (decide ((ByteArray.size s) ≤ (9223372036854775807 : Nat)))) ∧ (Φ (AV.v (Value.bool false))))))) else (some ((cdb (cdb True (decide ((ByteArray.size (putR (six [(f (0 : Nat)), (f (1 : Nat)), (f (2 : Nat)), (f (3 : Nat)), (f (4 : Nat)), (f (5 : Nat)), (f (6 : Nat))]))) ≤ (9223372036854775807 : Nat)))) (decide ((ByteArray.size s) ≤ (9223372036854775807 : Nat)))) ∧ (Φ (AV.v (Value.bool false)))))) else (some ((cdb (cdb True (decide ((ByteArray.size (putR (six [(f (0 : Nat)), (f (1 : Nat)), (f (2 : Nat)), (f (3 : Nat)), (f (4 : Nat)), (f (5 : Nat)), (f (6 : Nat))]))) ≤ (9223372036854775807 : Nat)))) (decide ((ByteArray.size s) ≤ (9223372036854775807 : Nat)))) ∧ (Φ (AV.v (Value.bool false)))))) else (some ((cdb (cdb True (decide ((ByteArray.size (putR (six [(f (0 : Nat)), (f (1 : Nat)), (f (2 : Nat)), (f (3 : Nat)), (f (4 : Nat)), (f (5 : Nat)), (f (6 : Nat))]))) ≤ (9223372036854775807 : Nat)))) (decide ((ByteArray.size s) ≤ (9223372036854775807 : Nat)))) ∧ (Φ (AV.v (Value.bool false))))))))) else (bif ((getE s) != (0 : Int)) then (bif ((nameB (f (3 : Nat))) == (codeB (nameS (f (3 : Nat))))) then (bif (!(nameB (f (3 : Nat)))) then (some ((cdb (cdb True (decide ((ByteArray.size (putR (six [(f (0 : Nat)), (f (1 : Nat)), (f (2 : Nat)), (f (3 : Nat)), (f (4 : Nat)), (f (5 : Nat)), (f (6 : Nat))]))) ≤ (9223372036854775807 : Nat)))) (decide ((ByteArray.size s) ≤ (9223372036854775807 : Nat)))) ∧ (Φ (AV.v (Value.bool true))))) else (bif ((codeI (nameS (f (3 : Nat)))) == (f (3 : Nat))) then (some ((cdb (cdb True (decide ((ByteArray.size (putR (six [(f (0 : Nat)), (f (1 : Nat)), (f (2 : Nat)), (f (3 : Nat)), (f (4 : Nat)), (f (5 : Nat)), (f (6 : Nat))]))) ≤ (9223372036854775807 : Nat)))) (decide ((ByteArray.size s) ≤ (9223372036854775807 : Nat)))) ∧ (Φ (AV.v (Value.bool true))))) else (some ((cdb (cdb True (decide ((ByteArray.size (putR (six [(f (0 : Nat)), (f (1 : Nat)), (f (2 : Nat)), (f (3 : Nat)), (f (4 : Nat)), (f (5 : Nat)), (f (6 : Nat))]))) ≤ (9223372036854775807 : Nat)))) (decide ((ByteArray.size s) ≤ (9223372036854775807 : Nat)))) ∧ (Φ (AV.v (Value.bool false))))))) else (some ((cdb (cdb True (decide ((ByteArray.size (putR (six [(f (0 : Nat)), (f (1 : Nat)), (f (2 : Nat)), (f (3 : Nat)), (f (4 : Nat)), (f (5 : Nat)), (f (6 : Nat))]))) ≤ (9223372036854775807 : Nat)))) (decide ((ByteArray.size s) ≤ (9223372036854775807 : Nat)))) ∧ (Φ (AV.v (Value.bool false)))))) else (bif ((chk25 (six [(getN s (0 : Nat)), (getN s (1 : Nat)), (getN s (2 : Nat)), (getN s (3 : Nat)), (getN s (4 : Nat)), (getN s (5 : Nat)), (getN s (6 : Nat))])) == (0 : Int)) then (bif ((ByteArray.toList (putR (six [(getN s (0 : Nat)), (getN s (1 : Nat)), (getN s (2 : Nat)), (getN s (3 : Nat)), (getN s (4 : Nat)), (getN s (5 : Nat)), (getN s (6 : Nat))]))) == (ByteArray.toList s)) then (bif ((nameB (f (3 : Nat))) == (codeB (nameS (f (3 : Nat))))) then (bif (!(nameB (f (3 : Nat)))) then (some ((cdb (cdb True (decide ((ByteArray.size (putR (six [(f (0 : Nat)), (f (1 : Nat)), (f (2 : Nat)), (f (3 : Nat)), (f (4 : Nat)), (f (5 : Nat)), (f (6 : Nat))]))) ≤ (9223372036854775807 : Nat)))) (decide ((ByteArray.size s) ≤ (9223372036854775807 : Nat)))) ∧ (Φ (AV.v (Value.bool true))))) else (bif ((codeI (nameS (f (3 : Nat)))) == (f (3 : Nat))) then (some ((cdb (cdb True (decide ((ByteArray.size (putR (six [(f (0 : Nat)), (f (1 : Nat)), (f (2 : Nat)), (f (3 : Nat)), (f (4 : Nat)), (f (5 : Nat)), (f (6 : Nat))]))) ≤ (9223372036854775807 : Nat)))) (decide ((ByteArray.size s) ≤ (9223372036854775807 : Nat)))) ∧ (Φ (AV.v (Value.bool true))))) else (some ((cdb (cdb True (decide ((ByteArray.size (putR (six [(f (0 : Nat)), (f (1 : Nat)), (f (2 : Nat)), (f (3 : Nat)), (f (4 : Nat)), (f (5 : Nat)), (f (6 : Nat))]))) ≤ (9223372036854775807 : Nat)))) (decide ((ByteArray.size s) ≤ (9223372036854775807 : Nat)))) ∧ (Φ (AV.v (Value.bool false))))))) else (some ((cdb (cdb True (decide ((ByteArray.size (putR (six [(f (0 : Nat)), (f (1 : Nat)), (f (2 : Nat)), (f (3 : Nat)), (f (4 : Nat)), (f (5 : Nat)), (f (6 : Nat))]))) ≤ (9223372036854775807 : Nat)))) (decide ((ByteArray.size s) ≤ (9223372036854775807 : Nat)))) ∧ (Φ (AV.v (Value.bool false)))))) else (some ((cdb (cdb True (decide ((ByteArray.size (putR (six [(f (0 : Nat)), (f (1 : Nat)), (f (2 : Nat)), (f (3 : Nat)), (f (4 : Nat)), (f (5 : Nat)), (f (6 : Nat))]))) ≤ (9223372036854775807 : Nat)))) (decide ((ByteArray.size s) ≤ (9223372036854775807 : Nat)))) ∧ (Φ (AV.v (Value.bool false)))))) else (some ((cdb (cdb True (decide ((ByteArray.size (putR (six [(f (0 : Nat)), (f (1 : Nat)), (f (2 : Nat)), (f (3 : Nat)), (f (4 : Nat)), (f (5 : Nat)), (f (6 : Nat))]))) ≤ (9223372036854775807 : Nat)))) (decide ((ByteArray.size s) ≤ (9223372036854775807 : Nat)))) ∧ (Φ (AV.v (Value.bool false)))))))))) := by kernel_rfl
end Go.Proofs.YtemjnfncncmbdaaDoor.AE
namespace Go.Proofs.YtemjnfncncmbdaaDoor
open Go.RowKit AE Oc
theorem piece_back (r : ByteArray) (m : Int) (h1 : 1 ≤ m) (h2 : m ≤ 6) (h : m ≤ r.size) : be m.toNat (takeN r m).toNat ++ (takeR r m).data.toList = r.data.toList := by
  have hin : inT r m = true := by simp only [inT, Bool.and_eq_true, decide_eq_true_eq]; omega
  have hl : r.data.toList.length = r.size := by rw [Array.length_toList]; rfl
  have e1 : (r.extract 0 m.toNat).data.toList = r.data.toList.take m.toNat := by simp
  have e2 : (r.extract m.toNat r.size).data.toList = r.data.toList.drop m.toNat := by
    simp only [ByteArray.data_extract, Array.toList_extract, List.extract]
    rw [List.take_of_length_le (by rw [List.length_drop]; omega)]
  rw [takeN, if_pos hin, takeR, if_pos hin, e1, e2, Int.toNat_natCast]
  have e3 : (r.data.toList.take m.toNat).length = m.toNat := by rw [List.length_take]; omega
  have := be_num (r.data.toList.take m.toNat)
  rw [e3] at this
  rw [this, List.take_append_drop]
theorem takeN_one {r : ByteArray} (h : (1 : Int) ≤ r.size) : 0 ≤ takeN r 1 ∧ takeN r 1 < 256 := by
  have hin : inT r 1 = true := by simp only [inT, Bool.and_eq_true, decide_eq_true_eq]; omega
  rw [takeN, if_pos hin]
  have hl : r.data.toList.length = r.size := by rw [Array.length_toList]; rfl
  have e1 : (r.extract 0 (1 : Int).toNat).data.toList = r.data.toList.take 1 := by simp
  rw [e1]
  have h2 := num_lt (r.data.toList.take 1)
  have h3 : (r.data.toList.take 1).length = 1 := by rw [List.length_take]; omega
  rw [h3] at h2
  omega
theorem ok_zero {f : Nat → Int} (h : okP f) : chk25 f = 0 := by unfold chk25; rw [decide_eq_true h]; rfl
theorem zero_ok {f : Nat → Int} (h : chk25 f = 0) : okP f := chk_ok (by rw [h]; rfl)
theorem put_back {f : Nat → Int} (h : okP f) : (putR f).size = 15 ∧ numsOf w25 (putR f) = [f 0, f 1, (f 2 + 1), f 3, f 4, f 5, f 6] := by
  obtain ⟨g0, g1, g2, g3, g4, g5, g6⟩ := fits25 h
  have hb : putR f = ⟨(bytes25 f).toArray⟩ := by unfold putR; rw [if_pos h]
  rw [hb]
  refine ⟨by rw [mk_size]; simp [bytes25, be_length], ?_⟩
  have e : bytes25 f = be 6 (f 0).toNat ++ (be 1 (f 1).toNat ++ (be 1 (f 2 + 1).toNat ++ (be 1 (f 3).toNat ++ (be 1 (f 4).toNat ++ (be 4 (f 5).toNat ++ (be 1 (f 6).toNat ++ [])))))) := by simp [bytes25, List.append_assoc]
  rw [e]
  have x0 := take_piece (f 0) 6 (be 1 (f 1).toNat ++ (be 1 (f 2 + 1).toNat ++ (be 1 (f 3).toNat ++ (be 1 (f 4).toNat ++ (be 4 (f 5).toNat ++ (be 1 (f 6).toNat ++ [])))))) g0
  have x1 := take_piece (f 1) 1 (be 1 (f 2 + 1).toNat ++ (be 1 (f 3).toNat ++ (be 1 (f 4).toNat ++ (be 4 (f 5).toNat ++ (be 1 (f 6).toNat ++ []))))) g1
  have x2 := take_piece (f 2 + 1) 1 (be 1 (f 3).toNat ++ (be 1 (f 4).toNat ++ (be 4 (f 5).toNat ++ (be 1 (f 6).toNat ++ [])))) g2
  have x3 := take_piece (f 3) 1 (be 1 (f 4).toNat ++ (be 4 (f 5).toNat ++ (be 1 (f 6).toNat ++ []))) g3
  have x4 := take_piece (f 4) 1 (be 4 (f 5).toNat ++ (be 1 (f 6).toNat ++ [])) g4
  have x5 := take_piece (f 5) 4 (be 1 (f 6).toNat ++ []) g5
  have x6 := take_piece (f 6) 1 ([]) g6
  simp only [w25, numsOf]
  have u0 : (1 : Int).toNat = 1 := rfl
  have u1 : (6 : Int).toNat = 6 := rfl
  have u2 : (4 : Int).toNat = 4 := rfl
  simp only [u0, u1, u2] at x0 x1 x2 x3 x4 x5 x6
  rw [x0.1, x0.2.2]
  rw [x1.1, x1.2.2]
  rw [x2.1, x2.2.2]
  rw [x3.1, x3.2.2]
  rw [x4.1, x4.2.2]
  rw [x5.1, x5.2.2]
  rw [x6.1]
theorem vals_back {f : Nat → Int} (h : okP f) : vals25 (putR f) = six [f 0, f 1, f 2, f 3, f 4, f 5, f 6] := by
  unfold vals25
  rw [(put_back h).2]
  have hw : IntKind.wrap .i64 (f 2 + 1 - 1) = f 2 := by
    obtain ⟨a0, b0, a1, b1, a2, b2, _⟩ := h
    rw [IntKind.wrap_i64]; omega
  show six [f 0, f 1, IntKind.wrap .i64 (f 2 + 1 - 1), f 3, f 4, f 5, f 6] = _
  rw [hw]
theorem get_back {f : Nat → Int} (h : okP f) : getE (putR f) = 0 ∧ getN (putR f) 0 = f 0 ∧ getN (putR f) 1 = f 1 ∧ getN (putR f) 2 = f 2 ∧ getN (putR f) 3 = f 3 ∧ getN (putR f) 4 = f 4 ∧ getN (putR f) 5 = f 5 ∧ getN (putR f) 6 = f 6 := by
  have h1 := (put_back h).1
  have hv : chk25 (vals25 (putR f)) = chk25 f := by rw [vals_back h]; kernel_rfl
  have he : getE (putR f) = 0 := e0 (by omega) (by rw [hv]; exact ok_zero h)
  refine ⟨he, ?_⟩
  have hg : getN (putR f) = six [f 0, f 1, f 2, f 3, f 4, f 5, f 6] := by unfold getN; rw [if_pos he, vals_back h]
  rw [hg]
  exact ⟨rfl, rfl, rfl, rfl, rfl, rfl, rfl⟩
theorem get_then {s : ByteArray} (h : getE s = 0) : chk25 (getN s) = 0 ∧ putR (getN s) = s := by
  have hg : getN s = vals25 s := by unfold getN; rw [if_pos h]
  have h0 := h
  unfold getE at h0
  split at h0
  · cases h0
  rename_i n14
  split at h0
  · cases h0
  rename_i hor
  have hz : s.size = 15 := by omega
  have hc : chk25 (vals25 s) = 0 := Decidable.byContradiction fun hne => hor (.inr hne)
  rw [hg]
  refine ⟨hc, ?_⟩
  have hok := zero_ok hc
  unfold putR
  rw [if_pos hok]
  have hb : bytes25 (vals25 s) = s.data.toList := by
    obtain ⟨s1, q1⟩ : ∃ x, x = takeR s 6 := ⟨_, rfl⟩
    obtain ⟨s2, q2⟩ : ∃ x, x = takeR s1 1 := ⟨_, rfl⟩
    obtain ⟨s3, q3⟩ : ∃ x, x = takeR s2 1 := ⟨_, rfl⟩
    obtain ⟨s4, q4⟩ : ∃ x, x = takeR s3 1 := ⟨_, rfl⟩
    obtain ⟨s5, q5⟩ : ∃ x, x = takeR s4 1 := ⟨_, rfl⟩
    obtain ⟨s6, q6⟩ : ∃ x, x = takeR s5 4 := ⟨_, rfl⟩
    obtain ⟨s7, q7⟩ : ∃ x, x = takeR s6 1 := ⟨_, rfl⟩
    have z0 := takeR_size (r := s) (m := 6) (by decide) (by decide) (by omega)
    rw [← q1] at z0
    have p0 := piece_back s 6 (by decide) (by decide) (by omega)
    rw [← q1] at p0
    have z1 := takeR_size (r := s1) (m := 1) (by decide) (by decide) (by omega)
    rw [← q2] at z1
    have p1 := piece_back s1 1 (by decide) (by decide) (by omega)
    rw [← q2] at p1
    have z2 := takeR_size (r := s2) (m := 1) (by decide) (by decide) (by omega)
    rw [← q3] at z2
    have p2 := piece_back s2 1 (by decide) (by decide) (by omega)
    rw [← q3] at p2
    have z3 := takeR_size (r := s3) (m := 1) (by decide) (by decide) (by omega)
    rw [← q4] at z3
    have p3 := piece_back s3 1 (by decide) (by decide) (by omega)
    rw [← q4] at p3
    have z4 := takeR_size (r := s4) (m := 1) (by decide) (by decide) (by omega)
    rw [← q5] at z4
    have p4 := piece_back s4 1 (by decide) (by decide) (by omega)
    rw [← q5] at p4
    have z5 := takeR_size (r := s5) (m := 4) (by decide) (by decide) (by omega)
    rw [← q6] at z5
    have p5 := piece_back s5 4 (by decide) (by decide) (by omega)
    rw [← q6] at p5
    have z6 := takeR_size (r := s6) (m := 1) (by decide) (by decide) (by omega)
    rw [← q7] at z6
    have p6 := piece_back s6 1 (by decide) (by decide) (by omega)
    rw [← q7] at p6
    have last : s7.data.toList = [] := by
      have : s7.data.toList.length = s7.size := by rw [Array.length_toList]; rfl
      exact List.eq_nil_of_length_eq_zero (by omega)
    rw [last] at p6
    have e : vals25 s = six [takeN s 6, takeN s1 1, IntKind.wrap .i64 (takeN s2 1 - 1), takeN s3 1, takeN s4 1, takeN s5 4, takeN s6 1] := by
      subst q7 q6 q5 q4 q3 q2 q1; kernel_rfl
    have b1 := takeN_one (r := s2) (by omega)
    have hw : IntKind.wrap .i64 (takeN s2 1 - 1) = takeN s2 1 - 1 := by rw [IntKind.wrap_i64]; omega
    rw [hw] at e
    rw [e, ← p0, ← p1, ← p2, ← p3, ← p4, ← p5, ← p6]
    have c1 : takeN s2 1 - 1 + 1 = takeN s2 1 := by omega
    simp [bytes25, six, List.append_assoc, c1]
  rw [hb]
theorem AE.nm_eq : (["good", "refused", "expired", "spent", "evicted", "late", "failed", "cut", "starved", "broken"].map fun (s : String) => Value.string s.toUTF8) = ([[103, 111, 111, 100], [114, 101, 102, 117, 115, 101, 100], [101, 120, 112, 105, 114, 101, 100], [115, 112, 101, 110, 116], [101, 118, 105, 99, 116, 101, 100], [108, 97, 116, 101], [102, 97, 105, 108, 101, 100], [99, 117, 116], [115, 116, 97, 114, 118, 101, 100], [98, 114, 111, 107, 101, 110]].map fun (z : List UInt8) => Value.string ⟨z.toArray⟩) := by kernel_rfl
theorem AE.ro25_of {W : World} (h : laidMet Tryd.prog Rows.replyPutsRow.laid W) : Ro ro25 (G0 W) W := by
  have hT := laid_table h (name := "lockkeeper/reply.widths") (k := .i64) (zs := [6, 1, 1, 1, 1, 4, 1]) (List.mem_of_getElem? (i := 0) (by kernel_rfl)) (g := 0) (by kernel_rfl) (t := 44) (by kernel_rfl) Tryd.underlying44 Tryd.underlying3 (by kernel_rfl) (by kernel_rfl) (by decide)
  have hK := laid_strs h (name := "lockkeeper/reply.names") (zs := [[103, 111, 111, 100], [114, 101, 102, 117, 115, 101, 100], [101, 120, 112, 105, 114, 101, 100], [115, 112, 101, 110, 116], [101, 118, 105, 99, 116, 101, 100], [108, 97, 116, 101], [102, 97, 105, 108, 101, 100], [99, 117, 116], [115, 116, 97, 114, 118, 101, 100], [98, 114, 111, 107, 101, 110]]) (List.mem_of_getElem? (i := 1) (by kernel_rfl)) (g := 1) (by kernel_rfl) (t := 56) (by kernel_rfl) Tryd.underlying56 Tryd.underlying9 (by kernel_rfl) (by kernel_rfl) (by decide)
  rw [← nm_eq] at hK
  intro b cs hb
  unfold ro25 at hb
  split at hb
  · cases hb; exact hT
  · cases hb; exact hK
  · cases hb
theorem AE.name_code (c : Int) : nameB c = codeB (nameS c) ∧ (nameB c = true → codeI (nameS c) = c) := by
  by_cases h : 1 ≤ c ∧ c ≤ 10
  · obtain ⟨h1, h2⟩ := h
    obtain rfl | rfl | rfl | rfl | rfl | rfl | rfl | rfl | rfl | rfl : c = 1 ∨ c = 2 ∨ c = 3 ∨ c = 4 ∨ c = 5 ∨ c = 6 ∨ c = 7 ∨ c = 8 ∨ c = 9 ∨ c = 10 := by omega
    all_goals exact ⟨by kernel_rfl, fun _ => by kernel_rfl⟩
  · have e : nameS c = ⟨#[]⟩ := by unfold nameS; rw [if_neg h]
    have e2 : nameB c = false := by unfold nameB; rw [decide_eq_false h]
    rw [e, e2]
    exact ⟨by kernel_rfl, fun h => by cases h⟩
theorem w_ReplyPuts (w : World) (hR : Ro ro25 (G0 w) w) (a b c d e f g : Int) (p q r s t u : Int) : Calls Tryd.prog 3 #[.agg #[.int .i64 a, .int .i64 b, .int .i64 c, .int .i64 d, .int .i64 e, .int .i64 f, .int .i64 g], .agg #[.int .i64 p, .int .i64 q, .int .i64 r, .int .i64 s, .int .i64 t, .int .i64 u]] w fun e w' => e = .returned (.bool true) ∧ Below w.heap.size w w' := by
  obtain ⟨f, hf⟩ : ∃ x, x = six [a, b, c, d, e, f, g] := ⟨_, rfl⟩
  obtain ⟨g, hg⟩ : ∃ x, x = six [p, q, r, s, t, u] := ⟨_, rfl⟩
  refine law_true (ro := ro25) (args := [req f, rq g]) ?_ w _ hR (.cons (by subst hf; exact .v _) (.cons (by subst hg; exact .v _) .nil))
  refine Fs.of_call knownD (t_ReplyPuts f g _) ?_ flatD
  refine holds_bif (fun _ => holds_bif (fun _ => holds_bif (fun _ => holds_bif (fun _ => ⟨trivial, rfl⟩) (fun h => ?_)) (fun h => ?_)) (fun h => ?_)) (fun h => ?_)
  all_goals simp at h
end Go.Proofs.YtemjnfncncmbdaaDoor
