
/-
  Layer 27: what is known of the messages; the frame of bytes, as trees.
-/
import Derived.Test.YtlonpmcgejdkkaaGreatDoorAEOct
import Derived.Test.YtlonpmcgejdkkaaGreatDoorZ2
import Derived.Test.YtlonpmcgejdkkaaGreatDoorZ1
import Derived.Test.YtlonpmcgejdkkaaGreatDoorAEList
namespace Go.Proofs.YtlonpmcgejdkkaaGreatDoor.AE.Q24
set_option maxRecDepth 100000
open Go.RowKit Oc
def ro24 : Nat → Option (List Value) := fun b => match b with
 | 0 => some ([6, 1, 1, 1, 6, 2].map fun (n : Int) => .int .i64 n)
  | _ => none
noncomputable def prA : FuncId → Option (List AV → AH → Ans) := fun g => match g with
  | 67 => some (pure? putP)
  | 50 => some (own? (takeP 116))
  | 70 => some (pure? numP)
  | 83 => some (pure? ofP)
  | _ => none
theorem knownA : Known ro24 prA := by
  intro g p h
  unfold prA at h
  split at h
  · cases h; exact put_ok _
  · cases h; exact take_ok _
  · cases h; exact num_ok _
  · cases h; exact of_ok _
  · cases h
def req (f : Nat → Int) : AV := .v (.agg #[.int .i64 (f 0), .int .i64 (f 1), .int .i64 (f 2), .int .i64 (f 3), .int .i64 (f 4), .int .i64 (f 5)])
theorem t_check (f : Nat → Int) (Φ : AV → Prop) : callK ro24 (fun _ => false) prA 10 52 [req f] (hp [] []) (fun r h => some (h.cd ∧ Φ r)) =
    (bif (decide ((0 : Int) ≤ (f (0 : Nat)))) then (bif (decide ((f (0 : Nat)) ≤ (281474976710655 : Int))) then (bif (decide ((-(1 : Int)) ≤ (f (1 : Nat)))) then (bif (decide ((f (1 : Nat)) ≤ (7 : Int))) then (bif (decide ((0 : Int) ≤ (f (2 : Nat)))) then (bif (decide ((f (2 : Nat)) ≤ (7 : Int))) then (bif ((f (2 : Nat)) != (f (1 : Nat))) then (bif (decide ((0 : Int) ≤ (f (3 : Nat)))) then (bif (decide ((f (3 : Nat)) ≤ (127 : Int))) then (bif (decide ((0 : Int) ≤ (f (4 : Nat)))) then (bif (decide ((f (4 : Nat)) ≤ (1099511627776 : Int))) then (bif (decide ((0 : Int) ≤ (f (5 : Nat)))) then (bif (decide ((f (5 : Nat)) ≤ (65535 : Int))) then (some (True ∧ (Φ (AV.v (Value.int IntKind.i64 (0 : Int)))))) else (some (True ∧ (Φ (AV.v (Value.int IntKind.i64 (1 : Int))))))) else (some (True ∧ (Φ (AV.v (Value.int IntKind.i64 (1 : Int))))))) else (some (True ∧ (Φ (AV.v (Value.int IntKind.i64 (1 : Int))))))) else (some (True ∧ (Φ (AV.v (Value.int IntKind.i64 (1 : Int))))))) else (some (True ∧ (Φ (AV.v (Value.int IntKind.i64 (1 : Int))))))) else (some (True ∧ (Φ (AV.v (Value.int IntKind.i64 (1 : Int))))))) else (some (True ∧ (Φ (AV.v (Value.int IntKind.i64 (1 : Int))))))) else (some (True ∧ (Φ (AV.v (Value.int IntKind.i64 (1 : Int))))))) else (some (True ∧ (Φ (AV.v (Value.int IntKind.i64 (1 : Int))))))) else (some (True ∧ (Φ (AV.v (Value.int IntKind.i64 (1 : Int))))))) else (some (True ∧ (Φ (AV.v (Value.int IntKind.i64 (1 : Int))))))) else (some (True ∧ (Φ (AV.v (Value.int IntKind.i64 (1 : Int))))))) else (some (True ∧ (Φ (AV.v (Value.int IntKind.i64 (1 : Int))))))) := by kernel_rfl
theorem t_rcheck (f : Nat → Int) (Φ : AV → Prop) : callK ro24 (fun _ => false) prA 10 61 [req f] (hp [] []) (fun r h => some (h.cd ∧ Φ r)) =
    (bif (decide ((f (0 : Nat)) < (0 : Int))) then (some (True ∧ (Φ (AV.v (Value.int IntKind.i64 (1 : Int)))))) else (bif (decide ((281474976710655 : Int) < (f (0 : Nat)))) then (some (True ∧ (Φ (AV.v (Value.int IntKind.i64 (1 : Int)))))) else (bif (decide ((f (1 : Nat)) < (-(1 : Int)))) then (some (True ∧ (Φ (AV.v (Value.int IntKind.i64 (1 : Int)))))) else (bif (decide ((7 : Int) < (f (1 : Nat)))) then (some (True ∧ (Φ (AV.v (Value.int IntKind.i64 (1 : Int)))))) else (bif (decide ((f (2 : Nat)) < (0 : Int))) then (some (True ∧ (Φ (AV.v (Value.int IntKind.i64 (1 : Int)))))) else (bif (decide ((7 : Int) < (f (2 : Nat)))) then (some (True ∧ (Φ (AV.v (Value.int IntKind.i64 (1 : Int)))))) else (bif ((f (2 : Nat)) == (f (1 : Nat))) then (some (True ∧ (Φ (AV.v (Value.int IntKind.i64 (1 : Int)))))) else (bif (decide ((f (3 : Nat)) < (0 : Int))) then (some (True ∧ (Φ (AV.v (Value.int IntKind.i64 (1 : Int)))))) else (bif (decide ((127 : Int) < (f (3 : Nat)))) then (some (True ∧ (Φ (AV.v (Value.int IntKind.i64 (1 : Int)))))) else (bif (decide ((f (4 : Nat)) < (0 : Int))) then (some (True ∧ (Φ (AV.v (Value.int IntKind.i64 (1 : Int)))))) else (bif (decide ((1099511627776 : Int) < (f (4 : Nat)))) then (some (True ∧ (Φ (AV.v (Value.int IntKind.i64 (1 : Int)))))) else (bif (decide ((f (5 : Nat)) < (0 : Int))) then (some (True ∧ (Φ (AV.v (Value.int IntKind.i64 (1 : Int)))))) else (bif (decide ((65535 : Int) < (f (5 : Nat)))) then (some (True ∧ (Φ (AV.v (Value.int IntKind.i64 (1 : Int)))))) else (some (True ∧ (Φ (AV.v (Value.int IntKind.i64 (0 : Int))))))))))))))))))) := by kernel_rfl
end Go.Proofs.YtlonpmcgejdkkaaGreatDoor.AE.Q24
namespace Go.Proofs.YtlonpmcgejdkkaaGreatDoor.AE.Q24
set_option maxRecDepth 100000
open Go.RowKit Oc Nm
def okP (f : Nat → Int) : Prop := 0 ≤ f 0 ∧ f 0 ≤ 281474976710655 ∧ -1 ≤ f 1 ∧ f 1 ≤ 7 ∧ 0 ≤ f 2 ∧ f 2 ≤ 7 ∧ f 2 ≠ f 1 ∧ 0 ≤ f 3 ∧ f 3 ≤ 127 ∧ 0 ≤ f 4 ∧ f 4 ≤ 1099511627776 ∧ 0 ≤ f 5 ∧ f 5 ≤ 65535
instance (f : Nat → Int) : Decidable (okP f) := by unfold okP; infer_instance
def chk24 (f : Nat → Int) : Int := bif decide (okP f) then 0 else 1
theorem chk_no {f : Nat → Int} (h : ¬ okP f) : AV.v (.int .i64 1) = AV.v (.int .i64 (chk24 f)) := by
  unfold chk24; rw [decide_eq_false h]; rfl
theorem chk_yes {f : Nat → Int} (h : okP f) : AV.v (.int .i64 0) = AV.v (.int .i64 (chk24 f)) := by
  unfold chk24; rw [decide_eq_true h]; rfl
theorem fs_check (f : Nat → Int) : Fs Tryz.prog ro24 52 [req f] (hp [] []) fun r _ => r = .v (.int .i64 (chk24 f)) := by
  refine Fs.of_call knownA (t_check f _) ?_
  repeat' (refine holds_bif (fun h => ?_) (fun h => ?_))
  all_goals
    refine ⟨trivial, ?_⟩
    simp only [decide_eq_true_eq, decide_eq_false_iff_not, bne_iff_ne, bne_eq_false_iff_eq, ne_eq] at *
    first
      | exact chk_no (by unfold okP; omega)
      | exact chk_yes (by unfold okP; omega)
theorem fs_rcheck (f : Nat → Int) : Fs Tryz.prog ro24 61 [req f] (hp [] []) fun r _ => r = .v (.int .i64 (chk24 f)) := by
  refine Fs.of_call knownA (t_rcheck f _) ?_
  repeat' (refine holds_bif (fun h => ?_) (fun h => ?_))
  all_goals
    refine ⟨trivial, ?_⟩
    simp only [decide_eq_true_eq, decide_eq_false_iff_not, beq_iff_eq, beq_eq_false_iff_ne, ne_eq] at *
    first
      | exact chk_no (by unfold okP; omega)
      | exact chk_yes (by unfold okP; omega)
/-- Plain numbers. -/
def ints? : List Value → Option (List Int)
  | [] => some []
  | .int .i64 n :: l => match ints? l with
    | some r => some (n :: r)
    | none => none
  | _ => none
theorem ints_map : ∀ {l : List Value} {r : List Int}, ints? l = some r → l = r.map (Value.int .i64)
  | [], r, h => by cases h; rfl
  | x :: l, r, h => by
    unfold ints? at h
    split at h
    · rename_i heq; cases heq
    · rename_i heq
      cases heq
      split at h
      · rename_i q hq
        cases h
        rw [ints_map hq]; rfl
      · cases h
    · cases h
def six (l : List Int) : Nat → Int := fun n => l.getD n 0
def sixP (F : (Nat → Int) → Value) : List Value → Option (Value × Bool) := fun us => match us with
  | [.agg cs] => match ints? cs.toList with
    | some l => match decide (l.length = 6) with
      | true => some (F (six l), true)
      | false => none
    | none => none
  | _ => none
theorem req_of {cs : Array Value} {l : List Int} (h : ints? cs.toList = some l) (h6 : l.length = 6) : AV.v (.agg cs) = req (six l) := by
  have := ints_map h
  obtain ⟨c⟩ := cs
  have : c = l.map (Value.int .i64) := this
  subst this
  match l, h6 with
  | [a, b, c, d, e, f], _ => rfl
theorem six_of {g : FuncId} {F : (Nat → Int) → Value} (hg : ∀ f : Nat → Int, Fs Tryz.prog ro24 g [req f] (hp [] []) fun r _ => r = .v (F f)) : ∀ us c, sixP F us = some (c, true) → Fs Tryz.prog ro24 g (us.map .v) (hp [] []) fun r _ => r = .v c := by
  intro us c h
  unfold sixP at h
  split at h
  · split at h
    · rename_i l hl
      split at h
      · rename_i h6
        cases h
        have := req_of hl (of_decide_eq_true h6)
        rw [List.map_cons, List.map_nil, this]
        exact hg (six l)
      · cases h
    · cases h
  · cases h
def chkV (f : Nat → Int) : Value := .int .i64 (chk24 f)
def numsP : List AV → Option (AV × Bool) := fun ar => match ar with
  | [.v (.string s), .lst 1 xs _] => match vals? xs with
    | some us => match ints? us with
      | some wl => match wl.isEmpty with
        | false => some (.lst 1 ((numsOf wl s).map gi) .no, enough wl s && decide (s.size ≤ maxLen) && decide (wl.length ≤ 1000))
        | true => none
      | none => none
    | none => none
  | _ => none
theorem nums_ok : ∀ args H r H', data? numsP args H = some (r, H') → HSound1 Tryz.prog ro24 59 args H r H' := by
  refine data_ok (has_fn (by kernel_rfl)) fun args r h => ?_
  unfold numsP at h
  split at h
  · rename_i s xs tip
    split at h
    · rename_i us hu
      split at h
      · rename_i wl hl
        split at h
        · rename_i hne
          simp only [Option.some.injEq, Prod.mk.injEq, Bool.and_eq_true, decide_eq_true_eq] at h
          obtain ⟨rfl, ⟨h1, h2⟩, h3⟩ := h
          have e1 := vals_map hu
          have e2 := ints_map hl
          subst e2
          subst e1
          have e3 : (wl.map (Value.int .i64)).map AV.v = wl.map gi := by rw [List.map_map]; rfl
          rw [e3]
          exact (fs_nums s wl tip h2 h3 (ne_nil hne) h1).ro _
        · cases h
      · cases h
    · cases h
  · cases h
noncomputable def prB : FuncId → Option (List AV → AH → Ans) := fun g => match g with
  | 52 => some (pure? (sixP chkV))
  | 61 => some (pure? (sixP chkV))
  | 59 => some (data? numsP)
  | g => prA g
theorem knownB : Known ro24 prB := by
  intro g p h
  unfold prB at h
  split at h
  · cases h; exact pure_ok (six_of fs_check) (has_fn (by kernel_rfl))
  · cases h; exact pure_ok (six_of fs_rcheck) (has_fn (by kernel_rfl))
  · cases h; exact nums_ok
  · exact knownA _ p h
end Go.Proofs.YtlonpmcgejdkkaaGreatDoor.AE.Q24
namespace Go.Proofs.YtlonpmcgejdkkaaGreatDoor.AE.Q24
set_option maxRecDepth 100000
open Go.RowKit Oc Nm
theorem t_put (f : Nat → Int) (Φ : AV → Prop) : callK ro24 (fun _ => false) prB 10 123 [req f] (hp [] []) (fun r h => some (h.cd ∧ Φ r)) =
    (bif ((Q24.chk24 (Q24.six [(f (0 : Nat)), (f (1 : Nat)), (f (2 : Nat)), (f (3 : Nat)), (f (4 : Nat)), (f (5 : Nat))])) != (0 : Int)) then (some (True ∧ (Φ (AV.v (Value.tuple #[(Value.string (ByteArray.mk (Array.mk (@List.nil UInt8)))), (Value.int IntKind.i64 (Q24.chk24 (Q24.six [(f (0 : Nat)), (f (1 : Nat)), (f (2 : Nat)), (f (3 : Nat)), (f (4 : Nat)), (f (5 : Nat))])))]))))) else (some ((cdb (cdb (cdb (cdb (cdb True (decide ((ByteArray.size (putS (ByteArray.mk (Array.mk (@List.nil UInt8))) (f (0 : Nat)) (6 : Int))) ≤ (70368744177664 : Nat)))) (decide ((ByteArray.size (putS (putS (ByteArray.mk (Array.mk (@List.nil UInt8))) (f (0 : Nat)) (6 : Int)) (IntKind.wrap IntKind.i64 ((f (1 : Nat)) + (1 : Int))) (1 : Int))) ≤ (70368744177664 : Nat)))) (decide ((ByteArray.size (putS (putS (putS (ByteArray.mk (Array.mk (@List.nil UInt8))) (f (0 : Nat)) (6 : Int)) (IntKind.wrap IntKind.i64 ((f (1 : Nat)) + (1 : Int))) (1 : Int)) (f (2 : Nat)) (1 : Int))) ≤ (70368744177664 : Nat)))) (decide ((ByteArray.size (putS (putS (putS (putS (ByteArray.mk (Array.mk (@List.nil UInt8))) (f (0 : Nat)) (6 : Int)) (IntKind.wrap IntKind.i64 ((f (1 : Nat)) + (1 : Int))) (1 : Int)) (f (2 : Nat)) (1 : Int)) (f (3 : Nat)) (1 : Int))) ≤ (70368744177664 : Nat)))) (decide ((ByteArray.size (putS (putS (putS (putS (putS (ByteArray.mk (Array.mk (@List.nil UInt8))) (f (0 : Nat)) (6 : Int)) (IntKind.wrap IntKind.i64 ((f (1 : Nat)) + (1 : Int))) (1 : Int)) (f (2 : Nat)) (1 : Int)) (f (3 : Nat)) (1 : Int)) (f (4 : Nat)) (6 : Int))) ≤ (70368744177664 : Nat)))) ∧ (Φ (AV.v (Value.tuple #[(Value.string (putS (putS (putS (putS (putS (putS (ByteArray.mk (Array.mk (@List.nil UInt8))) (f (0 : Nat)) (6 : Int)) (IntKind.wrap IntKind.i64 ((f (1 : Nat)) + (1 : Int))) (1 : Int)) (f (2 : Nat)) (1 : Int)) (f (3 : Nat)) (1 : Int)) (f (4 : Nat)) (6 : Int)) (f (5 : Nat)) (2 : Int))), (Value.int IntKind.i64 (0 : Int))])))))) := by kernel_rfl
theorem t_rput (f : Nat → Int) (Φ : AV → Prop) : callK ro24 (fun _ => false) prB 10 41 [req f] (hp [] []) (fun r h => some (h.cd ∧ Φ r)) =
    (bif ((Q24.chk24 (Q24.six [(f (0 : Nat)), (f (1 : Nat)), (f (2 : Nat)), (f (3 : Nat)), (f (4 : Nat)), (f (5 : Nat))])) != (0 : Int)) then (some (True ∧ (Φ (AV.v (Value.tuple #[(Value.string (ByteArray.mk (Array.mk (@List.nil UInt8)))), (Value.int IntKind.i64 (1 : Int))]))))) else (some ((cdb (cdb (cdb (cdb (cdb (cdb (cdb (cdb (cdb (cdb (cdb (cdb True (decide ((f (0 : Nat)) ≤ (9223372036854775807 : Int)))) (decide (((0 : Nat) + (ByteArray.size (numStr (f (0 : Nat)) (6 : Int)))) ≤ (9223372036854775807 : Nat)))) (decide ((exInt (AV.v (Value.int IntKind.i64 (IntKind.wrap IntKind.i64 ((f (1 : Nat)) + (1 : Int)))))) ≤ (9223372036854775807 : Int)))) (decide (((ByteArray.size ((ByteArray.mk (Array.mk (@List.nil UInt8))) ++ (numStr (f (0 : Nat)) (6 : Int)))) + (ByteArray.size (numStr (exInt (AV.v (Value.int IntKind.i64 (IntKind.wrap IntKind.i64 ((f (1 : Nat)) + (1 : Int)))))) (1 : Int)))) ≤ (9223372036854775807 : Nat)))) (decide ((f (2 : Nat)) ≤ (9223372036854775807 : Int)))) (decide (((ByteArray.size (((ByteArray.mk (Array.mk (@List.nil UInt8))) ++ (numStr (f (0 : Nat)) (6 : Int))) ++ (numStr (exInt (AV.v (Value.int IntKind.i64 (IntKind.wrap IntKind.i64 ((f (1 : Nat)) + (1 : Int)))))) (1 : Int)))) + (ByteArray.size (numStr (f (2 : Nat)) (1 : Int)))) ≤ (9223372036854775807 : Nat)))) (decide ((f (3 : Nat)) ≤ (9223372036854775807 : Int)))) (decide (((ByteArray.size ((((ByteArray.mk (Array.mk (@List.nil UInt8))) ++ (numStr (f (0 : Nat)) (6 : Int))) ++ (numStr (exInt (AV.v (Value.int IntKind.i64 (IntKind.wrap IntKind.i64 ((f (1 : Nat)) + (1 : Int)))))) (1 : Int))) ++ (numStr (f (2 : Nat)) (1 : Int)))) + (ByteArray.size (numStr (f (3 : Nat)) (1 : Int)))) ≤ (9223372036854775807 : Nat)))) (decide ((f (4 : Nat)) ≤ (9223372036854775807 : Int)))) (decide (((ByteArray.size (((((ByteArray.mk (Array.mk (@List.nil UInt8))) ++ (numStr (f (0 : Nat)) (6 : Int))) ++ (numStr (exInt (AV.v (Value.int IntKind.i64 (IntKind.wrap IntKind.i64 ((f (1 : Nat)) + (1 : Int)))))) (1 : Int))) ++ (numStr (f (2 : Nat)) (1 : Int))) ++ (numStr (f (3 : Nat)) (1 : Int)))) + (ByteArray.size (numStr (f (4 : Nat)) (6 : Int)))) ≤ (9223372036854775807 : Nat)))) (decide ((f (5 : Nat)) ≤ (9223372036854775807 : Int)))) (decide (((ByteArray.size ((((((ByteArray.mk (Array.mk (@List.nil UInt8))) ++ (numStr (f (0 : Nat)) (6 : Int))) ++ (numStr (exInt (AV.v (Value.int IntKind.i64 (IntKind.wrap IntKind.i64 ((f (1 : Nat)) + (1 : Int)))))) (1 : Int))) ++ (numStr (f (2 : Nat)) (1 : Int))) ++ (numStr (f (3 : Nat)) (1 : Int))) ++ (numStr (f (4 : Nat)) (6 : Int)))) + (ByteArray.size (numStr (f (5 : Nat)) (2 : Int)))) ≤ (9223372036854775807 : Nat)))) ∧ (Φ (AV.v (Value.tuple #[(Value.string (((((((ByteArray.mk (Array.mk (@List.nil UInt8))) ++ (numStr (f (0 : Nat)) (6 : Int))) ++ (numStr (exInt (AV.v (Value.int IntKind.i64 (IntKind.wrap IntKind.i64 ((f (1 : Nat)) + (1 : Int)))))) (1 : Int))) ++ (numStr (f (2 : Nat)) (1 : Int))) ++ (numStr (f (3 : Nat)) (1 : Int))) ++ (numStr (f (4 : Nat)) (6 : Int))) ++ (numStr (f (5 : Nat)) (2 : Int)))), (Value.int IntKind.i64 (0 : Int))])))))) := by kernel_rfl
theorem t_get (s : ByteArray) (Φ : AV → Prop) : callK ro24 (fun _ => false) prB 10 32 [.v (.string s)] (hp [] []) (fun r h => some (h.cd ∧ Φ r)) =
    (bif ((Oc.takeE s (6 : Int)) != (0 : Int)) then (bif ((Oc.takeE s (6 : Int)) != (0 : Int)) then (some ((cdb True (decide ((ByteArray.size s) ≤ (9223372036854775807 : Nat)))) ∧ (Φ (AV.v (Value.tuple #[(Value.agg #[(Value.int IntKind.i64 (0 : Int)), (Value.int IntKind.i64 (0 : Int)), (Value.int IntKind.i64 (0 : Int)), (Value.int IntKind.i64 (0 : Int)), (Value.int IntKind.i64 (0 : Int)), (Value.int IntKind.i64 (0 : Int))]), (Value.int IntKind.i64 (Oc.takeE s (6 : Int)))]))))) else (bif (decide ((0 : Int) < ((ByteArray.size (Oc.takeR s (6 : Int))) : Int))) then (some ((cdb True (decide ((ByteArray.size s) ≤ (9223372036854775807 : Nat)))) ∧ (Φ (AV.v (Value.tuple #[(Value.agg #[(Value.int IntKind.i64 (0 : Int)), (Value.int IntKind.i64 (0 : Int)), (Value.int IntKind.i64 (0 : Int)), (Value.int IntKind.i64 (0 : Int)), (Value.int IntKind.i64 (0 : Int)), (Value.int IntKind.i64 (0 : Int))]), (Value.int IntKind.i64 (2 : Int))]))))) else (bif ((Q24.chk24 (Q24.six [(exInt (AV.v (Value.int IntKind.i64 (Oc.takeN s (6 : Int))))), (IntKind.wrap IntKind.i64 ((0 : Int) - (1 : Int))), (0 : Int), (0 : Int), (0 : Int), (0 : Int)])) != (0 : Int)) then (some ((cdb True (decide ((ByteArray.size s) ≤ (9223372036854775807 : Nat)))) ∧ (Φ (AV.v (Value.tuple #[(Value.agg #[(Value.int IntKind.i64 (0 : Int)), (Value.int IntKind.i64 (0 : Int)), (Value.int IntKind.i64 (0 : Int)), (Value.int IntKind.i64 (0 : Int)), (Value.int IntKind.i64 (0 : Int)), (Value.int IntKind.i64 (0 : Int))]), (Value.int IntKind.i64 (2 : Int))]))))) else (some ((cdb True (decide ((ByteArray.size s) ≤ (9223372036854775807 : Nat)))) ∧ (Φ (AV.v (Value.tuple #[(Value.agg #[(Value.int IntKind.i64 (exInt (AV.v (Value.int IntKind.i64 (Oc.takeN s (6 : Int)))))), (Value.int IntKind.i64 (IntKind.wrap IntKind.i64 ((0 : Int) - (1 : Int)))), (Value.int IntKind.i64 (0 : Int)), (Value.int IntKind.i64 (0 : Int)), (Value.int IntKind.i64 (0 : Int)), (Value.int IntKind.i64 (0 : Int))]), (Value.int IntKind.i64 (0 : Int))])))))))) else (bif ((Oc.takeE (Oc.takeR s (6 : Int)) (1 : Int)) != (0 : Int)) then (bif ((Oc.takeE (Oc.takeR s (6 : Int)) (1 : Int)) != (0 : Int)) then (some ((cdb (cdb True (decide ((ByteArray.size s) ≤ (9223372036854775807 : Nat)))) (decide ((ByteArray.size (Oc.takeR s (6 : Int))) ≤ (9223372036854775807 : Nat)))) ∧ (Φ (AV.v (Value.tuple #[(Value.agg #[(Value.int IntKind.i64 (0 : Int)), (Value.int IntKind.i64 (0 : Int)), (Value.int IntKind.i64 (0 : Int)), (Value.int IntKind.i64 (0 : Int)), (Value.int IntKind.i64 (0 : Int)), (Value.int IntKind.i64 (0 : Int))]), (Value.int IntKind.i64 (Oc.takeE (Oc.takeR s (6 : Int)) (1 : Int)))]))))) else (bif (decide ((0 : Int) < ((ByteArray.size (Oc.takeR (Oc.takeR s (6 : Int)) (1 : Int))) : Int))) then (some ((cdb (cdb True (decide ((ByteArray.size s) ≤ (9223372036854775807 : Nat)))) (decide ((ByteArray.size (Oc.takeR s (6 : Int))) ≤ (9223372036854775807 : Nat)))) ∧ (Φ (AV.v (Value.tuple #[(Value.agg #[(Value.int IntKind.i64 (0 : Int)), (Value.int IntKind.i64 (0 : Int)), (Value.int IntKind.i64 (0 : Int)), (Value.int IntKind.i64 (0 : Int)), (Value.int IntKind.i64 (0 : Int)), (Value.int IntKind.i64 (0 : Int))]), (Value.int IntKind.i64 (2 : Int))]))))) else (bif ((Q24.chk24 (Q24.six [(exInt (AV.v (Value.int IntKind.i64 (Oc.takeN s (6 : Int))))), (IntKind.wrap IntKind.i64 ((exInt (AV.v (Value.int IntKind.i64 (Oc.takeN (Oc.takeR s (6 : Int)) (1 : Int))))) - (1 : Int))), (0 : Int), (0 : Int), (0 : Int), (0 : Int)])) != (0 : Int)) then (some ((cdb (cdb True (decide ((ByteArray.size s) ≤ (9223372036854775807 : Nat)))) (decide ((ByteArray.size (Oc.takeR s (6 : Int))) ≤ (9223372036854775807 : Nat)))) ∧ (Φ (AV.v (Value.tuple #[(Value.agg #[(Value.int IntKind.i64 (0 : Int)), (Value.int IntKind.i64 (0 : Int)), (Value.int IntKind.i64 (0 : Int)), (Value.int IntKind.i64 (0 : Int)), (Value.int IntKind.i64 (0 : Int)), (Value.int IntKind.i64 (0 : Int))]), (Value.int IntKind.i64 (2 : Int))]))))) else (some ((cdb (cdb True (decide ((ByteArray.size s) ≤ (9223372036854775807 : Nat)))) (decide ((ByteArray.size (Oc.takeR s (6 : Int))) ≤ (9223372036854775807 : Nat)))) ∧ (Φ (AV.v (Value.tuple #[(Value.agg #[(Value.int IntKind.i64 (exInt (AV.v (Value.int IntKind.i64 (Oc.takeN s (6 : Int)))))), (Value.int IntKind.i64 (IntKind.wrap IntKind.i64 ((exInt (AV.v (Value.int IntKind.i64 (Oc.takeN (Oc.takeR s (6 : Int)) (1 : Int))))) - (1 : Int)))), (Value.int IntKind.i64 (0 : Int)), (Value.int IntKind.i64 (0 : Int)), (Value.int IntKind.i64 (0 : Int)), (Value.int IntKind.i64 (0 : Int))]), (Value.int IntKind.i64 (0 : Int))])))))))) else (bif ((Oc.takeE (Oc.takeR (Oc.takeR s (6 : Int)) (1 : Int)) (1 : Int)) != (0 : Int)) then (bif ((Oc.takeE (Oc.takeR (Oc.takeR s (6 : Int)) (1 : Int)) (1 : Int)) != (0 : Int)) then (some ((cdb (cdb (cdb True (decide ((ByteArray.size s) ≤ (9223372036854775807 : Nat)))) (decide ((ByteArray.size (Oc.takeR s (6 : Int))) ≤ (9223372036854775807 : Nat)))) (decide ((ByteArray.size (Oc.takeR (Oc.takeR s (6 : Int)) (1 : Int))) ≤ (9223372036854775807 : Nat)))) ∧ (Φ (AV.v (Value.tuple #[(Value.agg #[(Value.int IntKind.i64 (0 : Int)), (Value.int IntKind.i64 (0 : Int)), (Value.int IntKind.i64 (0 : Int)), (Value.int IntKind.i64 (0 : Int)), (Value.int IntKind.i64 (0 : Int)), (Value.int IntKind.i64 (0 : Int))]), (Value.int IntKind.i64 (Oc.takeE (Oc.takeR (Oc.takeR s (6 : Int)) (1 : Int)) (1 : Int)))]))))) else (bif (decide ((0 : Int) < ((ByteArray.size (Oc.takeR (Oc.takeR (Oc.takeR s (6 : Int)) (1 : Int)) (1 : Int))) : Int))) then (some ((cdb (cdb (cdb True (decide ((ByteArray.size s) ≤ (9223372036854775807 : Nat)))) (decide ((ByteArray.size (Oc.takeR s (6 : Int))) ≤ (9223372036854775807 : Nat)))) (decide ((ByteArray.size (Oc.takeR (Oc.takeR s (6 : Int)) (1 : Int))) ≤ (9223372036854775807 : Nat)))) ∧ (Φ (AV.v (Value.tuple #[(Value.agg #[(Value.int IntKind.i64 (0 : Int)), (Value.int IntKind.i64 (0 : Int)), (Value.int IntKind.i64 (0 : Int)), (Value.int IntKind.i64 (0 : Int)), (Value.int IntKind.i64 (0 : Int)), (Value.int IntKind.i64 (0 : Int))]), (Value.int IntKind.i64 (2 : Int))]))))) else (bif ((Q24.chk24 (Q24.six [(exInt (AV.v (Value.int IntKind.i64 (Oc.takeN s (6 : Int))))), (IntKind.wrap IntKind.i64 ((exInt (AV.v (Value.int IntKind.i64 (Oc.takeN (Oc.takeR s (6 : Int)) (1 : Int))))) - (1 : Int))), (exInt (AV.v (Value.int IntKind.i64 (Oc.takeN (Oc.takeR (Oc.takeR s (6 : Int)) (1 : Int)) (1 : Int))))), (0 : Int), (0 : Int), (0 : Int)])) != (0 : Int)) then (some ((cdb (cdb (cdb True (decide ((ByteArray.size s) ≤ (9223372036854775807 : Nat)))) (decide ((ByteArray.size (Oc.takeR s (6 : Int))) ≤ (9223372036854775807 : Nat)))) (decide ((ByteArray.size (Oc.takeR (Oc.takeR s (6 : Int)) (1 : Int))) ≤ (9223372036854775807 : Nat)))) ∧ (Φ (AV.v (Value.tuple #[(Value.agg #[(Value.int IntKind.i64 (0 : Int)), (Value.int IntKind.i64 (0 : Int)), (Value.int IntKind.i64 (0 : Int)), (Value.int IntKind.i64 (0 : Int)), (Value.int IntKind.i64 (0 : Int)), (Value.int IntKind.i64 (0 : Int))]), (Value.int IntKind.i64 (2 : Int))]))))) else (some ((cdb (cdb (cdb True (decide ((ByteArray.size s) ≤ (9223372036854775807 : Nat)))) (decide ((ByteArray.size (Oc.takeR s (6 : Int))) ≤ (9223372036854775807 : Nat)))) (decide ((ByteArray.size (Oc.takeR (Oc.takeR s (6 : Int)) (1 : Int))) ≤ (9223372036854775807 : Nat)))) ∧ (Φ (AV.v (Value.tuple #[(Value.agg #[(Value.int IntKind.i64 (exInt (AV.v (Value.int IntKind.i64 (Oc.takeN s (6 : Int)))))), (Value.int IntKind.i64 (IntKind.wrap IntKind.i64 ((exInt (AV.v (Value.int IntKind.i64 (Oc.takeN (Oc.takeR s (6 : Int)) (1 : Int))))) - (1 : Int)))), (Value.int IntKind.i64 (exInt (AV.v (Value.int IntKind.i64 (Oc.takeN (Oc.takeR (Oc.takeR s (6 : Int)) (1 : Int)) (1 : Int)))))), (Value.int IntKind.i64 (0 : Int)), (Value.int IntKind.i64 (0 : Int)), (Value.int IntKind.i64 (0 : Int))]), (Value.int IntKind.i64 (0 : Int))])))))))) else (bif ((Oc.takeE (Oc.takeR (Oc.takeR (Oc.takeR s (6 : Int)) (1 : Int)) (1 : Int)) (1 : Int)) != (0 : Int)) then (bif ((Oc.takeE (Oc.takeR (Oc.takeR (Oc.takeR s (6 : Int)) (1 : Int)) (1 : Int)) (1 : Int)) != (0 : Int)) then (some ((cdb (cdb (cdb (cdb True (decide ((ByteArray.size s) ≤ (9223372036854775807 : Nat)))) (decide ((ByteArray.size (Oc.takeR s (6 : Int))) ≤ (9223372036854775807 : Nat)))) (decide ((ByteArray.size (Oc.takeR (Oc.takeR s (6 : Int)) (1 : Int))) ≤ (9223372036854775807 : Nat)))) (decide ((ByteArray.size (Oc.takeR (Oc.takeR (Oc.takeR s (6 : Int)) (1 : Int)) (1 : Int))) ≤ (9223372036854775807 : Nat)))) ∧ (Φ (AV.v (Value.tuple #[(Value.agg #[(Value.int IntKind.i64 (0 : Int)), (Value.int IntKind.i64 (0 : Int)), (Value.int IntKind.i64 (0 : Int)), (Value.int IntKind.i64 (0 : Int)), (Value.int IntKind.i64 (0 : Int)), (Value.int IntKind.i64 (0 : Int))]), (Value.int IntKind.i64 (Oc.takeE (Oc.takeR (Oc.takeR (Oc.takeR s (6 : Int)) (1 : Int)) (1 : Int)) (1 : Int)))]))))) else (bif (decide ((0 : Int) < ((ByteArray.size (Oc.takeR (Oc.takeR (Oc.takeR (Oc.takeR s (6 : Int)) (1 : Int)) (1 : Int)) (1 : Int))) : Int))) then (some ((cdb (cdb (cdb (cdb True (decide ((ByteArray.size s) ≤ (9223372036854775807 : Nat)))) (decide ((ByteArray.size (Oc.takeR s (6 : Int))) ≤ (9223372036854775807 : Nat)))) (decide ((ByteArray.size (Oc.takeR (Oc.takeR s (6 : Int)) (1 : Int))) ≤ (9223372036854775807 : Nat)))) (decide ((ByteArray.size (Oc.takeR (Oc.takeR (Oc.takeR s (6 : Int)) (1 : Int)) (1 : Int))) ≤ (9223372036854775807 : Nat)))) ∧ (Φ (AV.v (Value.tuple #[(Value.agg #[(Value.int IntKind.i64 (0 : Int)), (Value.int IntKind.i64 (0 : Int)), (Value.int IntKind.i64 (0 : Int)), (Value.int IntKind.i64 (0 : Int)), (Value.int IntKind.i64 (0 : Int)), (Value.int IntKind.i64 (0 : Int))]), (Value.int IntKind.i64 (2 : Int))]))))) else (bif ((Q24.chk24 (Q24.six [(exInt (AV.v (Value.int IntKind.i64 (Oc.takeN s (6 : Int))))), (IntKind.wrap IntKind.i64 ((exInt (AV.v (Value.int IntKind.i64 (Oc.takeN (Oc.takeR s (6 : Int)) (1 : Int))))) - (1 : Int))), (exInt (AV.v (Value.int IntKind.i64 (Oc.takeN (Oc.takeR (Oc.takeR s (6 : Int)) (1 : Int)) (1 : Int))))), (exInt (AV.v (Value.int IntKind.i64 (Oc.takeN (Oc.takeR (Oc.takeR (Oc.takeR s (6 : Int)) (1 : Int)) (1 : Int)) (1 : Int))))), (0 : Int), (0 : Int)])) != (0 : Int)) then (some ((cdb (cdb (cdb (cdb True (decide ((ByteArray.size s) ≤ (9223372036854775807 : Nat)))) (decide ((ByteArray.size (Oc.takeR s (6 : Int))) ≤ (9223372036854775807 : Nat)))) (decide ((ByteArray.size (Oc.takeR (Oc.takeR s (6 : Int)) (1 : Int))) ≤ (9223372036854775807 : Nat)))) (decide ((ByteArray.size (Oc.takeR (Oc.takeR (Oc.takeR s (6 : Int)) (1 : Int)) (1 : Int))) ≤ (9223372036854775807 : Nat)))) ∧ (Φ (AV.v (Value.tuple #[(Value.agg #[(Value.int IntKind.i64 (0 : Int)), (Value.int IntKind.i64 (0 : Int)), (Value.int IntKind.i64 (0 : Int)), (Value.int IntKind.i64 (0 : Int)), (Value.int IntKind.i64 (0 : Int)), (Value.int IntKind.i64 (0 : Int))]), (Value.int IntKind.i64 (2 : Int))]))))) else (some ((cdb (cdb (cdb (cdb True (decide ((ByteArray.size s) ≤ (9223372036854775807 : Nat)))) (decide ((ByteArray.size (Oc.takeR s (6 : Int))) ≤ (9223372036854775807 : Nat)))) (decide ((ByteArray.size (Oc.takeR (Oc.takeR s (6 : Int)) (1 : Int))) ≤ (9223372036854775807 : Nat)))) (decide ((ByteArray.size (Oc.takeR (Oc.takeR (Oc.takeR s (6 : Int)) (1 : Int)) (1 : Int))) ≤ (9223372036854775807 : Nat)))) ∧ (Φ (AV.v (Value.tuple #[(Value.agg #[(Value.int IntKind.i64 (exInt (AV.v (Value.int IntKind.i64 (Oc.takeN s (6 : Int)))))), (Value.int IntKind.i64 (IntKind.wrap IntKind.i64 ((exInt (AV.v (Value.int IntKind.i64 (Oc.takeN (Oc.takeR s (6 : Int)) (1 : Int))))) - (1 : Int)))), (Value.int IntKind.i64 (exInt (AV.v (Value.int IntKind.i64 (Oc.takeN (Oc.takeR (Oc.takeR s (6 : Int)) (1 : Int)) (1 : Int)))))), (Value.int IntKind.i64 (exInt (AV.v (Value.int IntKind.i64 (Oc.takeN (Oc.takeR (Oc.takeR (Oc.takeR s (6 : Int)) (1 : Int)) (1 : Int)) (1 : Int)))))), (Value.int IntKind.i64 (0 : Int)), (Value.int IntKind.i64 (0 : Int))]), (Value.int IntKind.i64 (0 : Int))])))))))) else (bif ((Oc.takeE (Oc.takeR (Oc.takeR (Oc.takeR (Oc.takeR s (6 : Int)) (1 : Int)) (1 : Int)) (1 : Int)) (6 : Int)) != (0 : Int)) then (bif ((Oc.takeE (Oc.takeR (Oc.takeR (Oc.takeR (Oc.takeR s (6 : Int)) (1 : Int)) (1 : Int)) (1 : Int)) (6 : Int)) != (0 : Int)) then (some ((cdb (cdb (cdb (cdb (cdb True (decide ((ByteArray.size s) ≤ (9223372036854775807 : Nat)))) (decide ((ByteArray.size (Oc.takeR s (6 : Int))) ≤ (9223372036854775807 : Nat)))) (decide ((ByteArray.size (Oc.takeR (Oc.takeR s (6 : Int)) (1 : Int))) ≤ (9223372036854775807 : Nat)))) (decide ((ByteArray.size (Oc.takeR (Oc.takeR (Oc.takeR s (6 : Int)) (1 : Int)) (1 : Int))) ≤ (9223372036854775807 : Nat)))) (decide ((ByteArray.size (Oc.takeR (Oc.takeR (Oc.takeR (Oc.takeR s (6 : Int)) (1 : Int)) (1 : Int)) (1 : Int))) ≤ (9223372036854775807 : Nat)))) ∧ (Φ (AV.v (Value.tuple #[(Value.agg #[(Value.int IntKind.i64 (0 : Int)), (Value.int IntKind.i64 (0 : Int)), (Value.int IntKind.i64 (0 : Int)), (Value.int IntKind.i64 (0 : Int)), (Value.int IntKind.i64 (0 : Int)), (Value.int IntKind.i64 (0 : Int))]), (Value.int IntKind.i64 (Oc.takeE (Oc.takeR (Oc.takeR (Oc.takeR (Oc.takeR s (6 : Int)) (1 : Int)) (1 : Int)) (1 : Int)) (6 : Int)))]))))) else (bif (decide ((0 : Int) < ((ByteArray.size (Oc.takeR (Oc.takeR (Oc.takeR (Oc.takeR (Oc.takeR s (6 : Int)) (1 : Int)) (1 : Int)) (1 : Int)) (6 : Int))) : Int))) then (some ((cdb (cdb (cdb (cdb (cdb True (decide ((ByteArray.size s) ≤ (9223372036854775807 : Nat)))) (decide ((ByteArray.size (Oc.takeR s (6 : Int))) ≤ (9223372036854775807 : Nat)))) (decide ((ByteArray.size (Oc.takeR (Oc.takeR s (6 : Int)) (1 : Int))) ≤ (9223372036854775807 : Nat)))) (decide ((ByteArray.size (Oc.takeR (Oc.takeR (Oc.takeR s (6 : Int)) (1 : Int)) (1 : Int))) ≤ (9223372036854775807 : Nat)))) (decide ((ByteArray.size (Oc.takeR (Oc.takeR (Oc.takeR (Oc.takeR s (6 : Int)) (1 : Int)) (1 : Int)) (1 : Int))) ≤ (9223372036854775807 : Nat)))) ∧ (Φ (AV.v (Value.tuple #[(Value.agg #[(Value.int IntKind.i64 (0 : Int)), (Value.int IntKind.i64 (0 : Int)), (Value.int IntKind.i64 (0 : Int)), (Value.int IntKind.i64 (0 : Int)), (Value.int IntKind.i64 (0 : Int)), (Value.int IntKind.i64 (0 : Int))]), (Value.int IntKind.i64 (2 : Int))]))))) else (bif ((Q24.chk24 (Q24.six [(exInt (AV.v (Value.int IntKind.i64 (Oc.takeN s (6 : Int))))), (IntKind.wrap IntKind.i64 ((exInt (AV.v (Value.int IntKind.i64 (Oc.takeN (Oc.takeR s (6 : Int)) (1 : Int))))) - (1 : Int))), (exInt (AV.v (Value.int IntKind.i64 (Oc.takeN (Oc.takeR (Oc.takeR s (6 : Int)) (1 : Int)) (1 : Int))))), (exInt (AV.v (Value.int IntKind.i64 (Oc.takeN (Oc.takeR (Oc.takeR (Oc.takeR s (6 : Int)) (1 : Int)) (1 : Int)) (1 : Int))))), (exInt (AV.v (Value.int IntKind.i64 (Oc.takeN (Oc.takeR (Oc.takeR (Oc.takeR (Oc.takeR s (6 : Int)) (1 : Int)) (1 : Int)) (1 : Int)) (6 : Int))))), (0 : Int)])) != (0 : Int)) then (some ((cdb (cdb (cdb (cdb (cdb True (decide ((ByteArray.size s) ≤ (9223372036854775807 : Nat)))) (decide ((ByteArray.size (Oc.takeR s (6 : Int))) ≤ (9223372036854775807 : Nat)))) (decide ((ByteArray.size (Oc.takeR (Oc.takeR s (6 : Int)) (1 : Int))) ≤ (9223372036854775807 : Nat)))) (decide ((ByteArray.size (Oc.takeR (Oc.takeR (Oc.takeR s (6 : Int)) (1 : Int)) (1 : Int))) ≤ (9223372036854775807 : Nat)))) (decide ((ByteArray.size (Oc.takeR (Oc.takeR (Oc.takeR (Oc.takeR s (6 : Int)) (1 : Int)) (1 : Int)) (1 : Int))) ≤ (9223372036854775807 : Nat)))) ∧ (Φ (AV.v (Value.tuple #[(Value.agg #[(Value.int IntKind.i64 (0 : Int)), (Value.int IntKind.i64 (0 : Int)), (Value.int IntKind.i64 (0 : Int)), (Value.int IntKind.i64 (0 : Int)), (Value.int IntKind.i64 (0 : Int)), (Value.int IntKind.i64 (0 : Int))]), (Value.int IntKind.i64 (2 : Int))]))))) else (some ((cdb (cdb (cdb (cdb (cdb True (decide ((ByteArray.size s) ≤ (9223372036854775807 : Nat)))) (decide ((ByteArray.size (Oc.takeR s (6 : Int))) ≤ (9223372036854775807 : Nat)))) (decide ((ByteArray.size (Oc.takeR (Oc.takeR s (6 : Int)) (1 : Int))) ≤ (9223372036854775807 : Nat)))) (decide ((ByteArray.size (Oc.takeR (Oc.takeR (Oc.takeR s (6 : Int)) (1 : Int)) (1 : Int))) ≤ (9223372036854775807 : Nat)))) (decide ((ByteArray.size (Oc.takeR (Oc.takeR (Oc.takeR (Oc.takeR s (6 : Int)) (1 : Int)) (1 : Int)) (1 : Int))) ≤ (9223372036854775807 : Nat)))) ∧ (Φ (AV.v (Value.tuple #[(Value.agg #[(Value.int IntKind.i64 (exInt (AV.v (Value.int IntKind.i64 (Oc.takeN s (6 : Int)))))), (Value.int IntKind.i64 (IntKind.wrap IntKind.i64 ((exInt (AV.v (Value.int IntKind.i64 (Oc.takeN (Oc.takeR s (6 : Int)) (1 : Int))))) - (1 : Int)))), (Value.int IntKind.i64 (exInt (AV.v (Value.int IntKind.i64 (Oc.takeN (Oc.takeR (Oc.takeR s (6 : Int)) (1 : Int)) (1 : Int)))))), (Value.int IntKind.i64 (exInt (AV.v (Value.int IntKind.i64 (Oc.takeN (Oc.takeR (Oc.takeR (Oc.takeR s (6 : Int)) (1 : Int)) (1 : Int)) (1 : Int)))))), (Value.int IntKind.i64 (exInt (AV.v (Value.int IntKind.i64 (Oc.takeN (Oc.takeR (Oc.takeR (Oc.takeR (Oc.takeR s (6 : Int)) (1 : Int)) (1 : Int)) (1 : Int)) (6 : Int)))))), (Value.int IntKind.i64 (0 : Int))]), (Value.int IntKind.i64 (0 : Int))])))))))) else (bif ((Oc.takeE (Oc.takeR (Oc.takeR (Oc.takeR (Oc.takeR (Oc.takeR s (6 : Int)) (1 : Int)) (1 : Int)) (1 : Int)) (6 : Int)) (2 : Int)) != (0 : Int)) then (bif ((Oc.takeE (Oc.takeR (Oc.takeR (Oc.takeR (Oc.takeR (Oc.takeR s (6 : Int)) (1 : Int)) (1 : Int)) (1 : Int)) (6 : Int)) (2 : Int)) != (0 : Int)) then (some ((cdb (cdb (cdb (cdb (cdb (cdb True (decide ((ByteArray.size s) ≤ (9223372036854775807 : Nat)))) (decide ((ByteArray.size (Oc.takeR s (6 : Int))) ≤ (9223372036854775807 : Nat)))) (decide ((ByteArray.size (Oc.takeR (Oc.takeR s (6 : Int)) (1 : Int))) ≤ (9223372036854775807 : Nat)))) (decide ((ByteArray.size (Oc.takeR (Oc.takeR (Oc.takeR s (6 : Int)) (1 : Int)) (1 : Int))) ≤ (9223372036854775807 : Nat)))) (decide ((ByteArray.size (Oc.takeR (Oc.takeR (Oc.takeR (Oc.takeR s (6 : Int)) (1 : Int)) (1 : Int)) (1 : Int))) ≤ (9223372036854775807 : Nat)))) (decide ((ByteArray.size (Oc.takeR (Oc.takeR (Oc.takeR (Oc.takeR (Oc.takeR s (6 : Int)) (1 : Int)) (1 : Int)) (1 : Int)) (6 : Int))) ≤ (9223372036854775807 : Nat)))) ∧ (Φ (AV.v (Value.tuple #[(Value.agg #[(Value.int IntKind.i64 (0 : Int)), (Value.int IntKind.i64 (0 : Int)), (Value.int IntKind.i64 (0 : Int)), (Value.int IntKind.i64 (0 : Int)), (Value.int IntKind.i64 (0 : Int)), (Value.int IntKind.i64 (0 : Int))]), (Value.int IntKind.i64 (Oc.takeE (Oc.takeR (Oc.takeR (Oc.takeR (Oc.takeR (Oc.takeR s (6 : Int)) (1 : Int)) (1 : Int)) (1 : Int)) (6 : Int)) (2 : Int)))]))))) else (bif (decide ((0 : Int) < ((ByteArray.size (Oc.takeR (Oc.takeR (Oc.takeR (Oc.takeR (Oc.takeR (Oc.takeR s (6 : Int)) (1 : Int)) (1 : Int)) (1 : Int)) (6 : Int)) (2 : Int))) : Int))) then (some ((cdb (cdb (cdb (cdb (cdb (cdb True (decide ((ByteArray.size s) ≤ (9223372036854775807 : Nat)))) (decide ((ByteArray.size (Oc.takeR s (6 : Int))) ≤ (9223372036854775807 : Nat)))) (decide ((ByteArray.size (Oc.takeR (Oc.takeR s (6 : Int)) (1 : Int))) ≤ (9223372036854775807 : Nat)))) (decide ((ByteArray.size (Oc.takeR (Oc.takeR (Oc.takeR s (6 : Int)) (1 : Int)) (1 : Int))) ≤ (9223372036854775807 : Nat)))) (decide ((ByteArray.size (Oc.takeR (Oc.takeR (Oc.takeR (Oc.takeR s (6 : Int)) (1 : Int)) (1 : Int)) (1 : Int))) ≤ (9223372036854775807 : Nat)))) (decide ((ByteArray.size (Oc.takeR (Oc.takeR (Oc.takeR (Oc.takeR (Oc.takeR s (6 : Int)) (1 : Int)) (1 : Int)) (1 : Int)) (6 : Int))) ≤ (9223372036854775807 : Nat)))) ∧ (Φ (AV.v (Value.tuple #[(Value.agg #[(Value.int IntKind.i64 (0 : Int)), (Value.int IntKind.i64 (0 : Int)), (Value.int IntKind.i64 (0 : Int)), (Value.int IntKind.i64 (0 : Int)), (Value.int IntKind.i64 (0 : Int)), (Value.int IntKind.i64 (0 : Int))]), (Value.int IntKind.i64 (2 : Int))]))))) else (bif ((Q24.chk24 (Q24.six [(exInt (AV.v (Value.int IntKind.i64 (Oc.takeN s (6 : Int))))), (IntKind.wrap IntKind.i64 ((exInt (AV.v (Value.int IntKind.i64 (Oc.takeN (Oc.takeR s (6 : Int)) (1 : Int))))) - (1 : Int))), (exInt (AV.v (Value.int IntKind.i64 (Oc.takeN (Oc.takeR (Oc.takeR s (6 : Int)) (1 : Int)) (1 : Int))))), (exInt (AV.v (Value.int IntKind.i64 (Oc.takeN (Oc.takeR (Oc.takeR (Oc.takeR s (6 : Int)) (1 : Int)) (1 : Int)) (1 : Int))))), (exInt (AV.v (Value.int IntKind.i64 (Oc.takeN (Oc.takeR (Oc.takeR (Oc.takeR (Oc.takeR s (6 : Int)) (1 : Int)) (1 : Int)) (1 : Int)) (6 : Int))))), (exInt (AV.v (Value.int IntKind.i64 (Oc.takeN (Oc.takeR (Oc.takeR (Oc.takeR (Oc.takeR (Oc.takeR s (6 : Int)) (1 : Int)) (1 : Int)) (1 : Int)) (6 : Int)) (2 : Int)))))])) != (0 : Int)) then (some ((cdb (cdb (cdb (cdb (cdb (cdb True (decide ((ByteArray.size s) ≤ (9223372036854775807 : Nat)))) (decide ((ByteArray.size (Oc.takeR s (6 : Int))) ≤ (9223372036854775807 : Nat)))) (decide ((ByteArray.size (Oc.takeR (Oc.takeR s (6 : Int)) (1 : Int))) ≤ (9223372036854775807 : Nat)))) (decide ((ByteArray.size (Oc.takeR (Oc.takeR (Oc.takeR s (6 : Int)) (1 : Int)) (1 : Int))) ≤ (9223372036854775807 : Nat)))) (decide ((ByteArray.size (Oc.takeR (Oc.takeR (Oc.takeR (Oc.takeR s (6 : Int)) (1 : Int)) (1 : Int)) (1 : Int))) ≤ (9223372036854775807 : Nat)))) (decide ((ByteArray.size (Oc.takeR (Oc.takeR (Oc.takeR (Oc.takeR (Oc.takeR s (6 : Int)) (1 : Int)) (1 : Int)) (1 : Int)) (6 : Int))) ≤ (9223372036854775807 : Nat)))) ∧ (Φ (AV.v (Value.tuple #[(Value.agg #[(Value.int IntKind.i64 (0 : Int)), (Value.int IntKind.i64 (0 : Int)), (Value.int IntKind.i64 (0 : Int)), (Value.int IntKind.i64 (0 : Int)), (Value.int IntKind.i64 (0 : Int)), (Value.int IntKind.i64 (0 : Int))]), (Value.int IntKind.i64 (2 : Int))]))))) else (some ((cdb (cdb (cdb (cdb (cdb (cdb True (decide ((ByteArray.size s) ≤ (9223372036854775807 : Nat)))) (decide ((ByteArray.size (Oc.takeR s (6 : Int))) ≤ (9223372036854775807 : Nat)))) (decide ((ByteArray.size (Oc.takeR (Oc.takeR s (6 : Int)) (1 : Int))) ≤ (9223372036854775807 : Nat)))) (decide ((ByteArray.size (Oc.takeR (Oc.takeR (Oc.takeR s (6 : Int)) (1 : Int)) (1 : Int))) ≤ (9223372036854775807 : Nat)))) (decide ((ByteArray.size (Oc.takeR (Oc.takeR (Oc.takeR (Oc.takeR s (6 : Int)) (1 : Int)) (1 : Int)) (1 : Int))) ≤ (9223372036854775807 : Nat)))) (decide ((ByteArray.size (Oc.takeR (Oc.takeR (Oc.takeR (Oc.takeR (Oc.takeR s (6 : Int)) (1 : Int)) (1 : Int)) (1 : Int)) (6 : Int))) ≤ (9223372036854775807 : Nat)))) ∧ (Φ (AV.v (Value.tuple #[(Value.agg #[(Value.int IntKind.i64 (exInt (AV.v (Value.int IntKind.i64 (Oc.takeN s (6 : Int)))))), (Value.int IntKind.i64 (IntKind.wrap IntKind.i64 ((exInt (AV.v (Value.int IntKind.i64 (Oc.takeN (Oc.takeR s (6 : Int)) (1 : Int))))) - (1 : Int)))), (Value.int IntKind.i64 (exInt (AV.v (Value.int IntKind.i64 (Oc.takeN (Oc.takeR (Oc.takeR s (6 : Int)) (1 : Int)) (1 : Int)))))), (Value.int IntKind.i64 (exInt (AV.v (Value.int IntKind.i64 (Oc.takeN (Oc.takeR (Oc.takeR (Oc.takeR s (6 : Int)) (1 : Int)) (1 : Int)) (1 : Int)))))), (Value.int IntKind.i64 (exInt (AV.v (Value.int IntKind.i64 (Oc.takeN (Oc.takeR (Oc.takeR (Oc.takeR (Oc.takeR s (6 : Int)) (1 : Int)) (1 : Int)) (1 : Int)) (6 : Int)))))), (Value.int IntKind.i64 (exInt (AV.v (Value.int IntKind.i64 (Oc.takeN (Oc.takeR (Oc.takeR (Oc.takeR (Oc.takeR (Oc.takeR s (6 : Int)) (1 : Int)) (1 : Int)) (1 : Int)) (6 : Int)) (2 : Int))))))]), (Value.int IntKind.i64 (0 : Int))])))))))) else (bif ((Oc.takeE (Oc.takeR (Oc.takeR (Oc.takeR (Oc.takeR (Oc.takeR s (6 : Int)) (1 : Int)) (1 : Int)) (1 : Int)) (6 : Int)) (2 : Int)) != (0 : Int)) then (some ((cdb (cdb (cdb (cdb (cdb (cdb True (decide ((ByteArray.size s) ≤ (9223372036854775807 : Nat)))) (decide ((ByteArray.size (Oc.takeR s (6 : Int))) ≤ (9223372036854775807 : Nat)))) (decide ((ByteArray.size (Oc.takeR (Oc.takeR s (6 : Int)) (1 : Int))) ≤ (9223372036854775807 : Nat)))) (decide ((ByteArray.size (Oc.takeR (Oc.takeR (Oc.takeR s (6 : Int)) (1 : Int)) (1 : Int))) ≤ (9223372036854775807 : Nat)))) (decide ((ByteArray.size (Oc.takeR (Oc.takeR (Oc.takeR (Oc.takeR s (6 : Int)) (1 : Int)) (1 : Int)) (1 : Int))) ≤ (9223372036854775807 : Nat)))) (decide ((ByteArray.size (Oc.takeR (Oc.takeR (Oc.takeR (Oc.takeR (Oc.takeR s (6 : Int)) (1 : Int)) (1 : Int)) (1 : Int)) (6 : Int))) ≤ (9223372036854775807 : Nat)))) ∧ (Φ (AV.v (Value.tuple #[(Value.agg #[(Value.int IntKind.i64 (0 : Int)), (Value.int IntKind.i64 (0 : Int)), (Value.int IntKind.i64 (0 : Int)), (Value.int IntKind.i64 (0 : Int)), (Value.int IntKind.i64 (0 : Int)), (Value.int IntKind.i64 (0 : Int))]), (Value.int IntKind.i64 (Oc.takeE (Oc.takeR (Oc.takeR (Oc.takeR (Oc.takeR (Oc.takeR s (6 : Int)) (1 : Int)) (1 : Int)) (1 : Int)) (6 : Int)) (2 : Int)))]))))) else (bif (decide ((0 : Int) < ((ByteArray.size (Oc.takeR (Oc.takeR (Oc.takeR (Oc.takeR (Oc.takeR (Oc.takeR s (6 : Int)) (1 : Int)) (1 : Int)) (1 : Int)) (6 : Int)) (2 : Int))) : Int))) then (some ((cdb (cdb (cdb (cdb (cdb (cdb True (decide ((ByteArray.size s) ≤ (9223372036854775807 : Nat)))) (decide ((ByteArray.size (Oc.takeR s (6 : Int))) ≤ (9223372036854775807 : Nat)))) (decide ((ByteArray.size (Oc.takeR (Oc.takeR s (6 : Int)) (1 : Int))) ≤ (9223372036854775807 : Nat)))) (decide ((ByteArray.size (Oc.takeR (Oc.takeR (Oc.takeR s (6 : Int)) (1 : Int)) (1 : Int))) ≤ (9223372036854775807 : Nat)))) (decide ((ByteArray.size (Oc.takeR (Oc.takeR (Oc.takeR (Oc.takeR s (6 : Int)) (1 : Int)) (1 : Int)) (1 : Int))) ≤ (9223372036854775807 : Nat)))) (decide ((ByteArray.size (Oc.takeR (Oc.takeR (Oc.takeR (Oc.takeR (Oc.takeR s (6 : Int)) (1 : Int)) (1 : Int)) (1 : Int)) (6 : Int))) ≤ (9223372036854775807 : Nat)))) ∧ (Φ (AV.v (Value.tuple #[(Value.agg #[(Value.int IntKind.i64 (0 : Int)), (Value.int IntKind.i64 (0 : Int)), (Value.int IntKind.i64 (0 : Int)), (Value.int IntKind.i64 (0 : Int)), (Value.int IntKind.i64 (0 : Int)), (Value.int IntKind.i64 (0 : Int))]), (Value.int IntKind.i64 (2 : Int))]))))) else (bif ((Q24.chk24 (Q24.six [(exInt (AV.v (Value.int IntKind.i64 (Oc.takeN s (6 : Int))))), (IntKind.wrap IntKind.i64 ((exInt (AV.v (Value.int IntKind.i64 (Oc.takeN (Oc.takeR s (6 : Int)) (1 : Int))))) - (1 : Int))), (exInt (AV.v (Value.int IntKind.i64 (Oc.takeN (Oc.takeR (Oc.takeR s (6 : Int)) (1 : Int)) (1 : Int))))), (exInt (AV.v (Value.int IntKind.i64 (Oc.takeN (Oc.takeR (Oc.takeR (Oc.takeR s (6 : Int)) (1 : Int)) (1 : Int)) (1 : Int))))), (exInt (AV.v (Value.int IntKind.i64 (Oc.takeN (Oc.takeR (Oc.takeR (Oc.takeR (Oc.takeR s (6 : Int)) (1 : Int)) (1 : Int)) (1 : Int)) (6 : Int))))), (exInt (AV.v (Value.int IntKind.i64 (Oc.takeN (Oc.takeR (Oc.takeR (Oc.takeR (Oc.takeR (Oc.takeR s (6 : Int)) (1 : Int)) (1 : Int)) (1 : Int)) (6 : Int)) (2 : Int)))))])) != (0 : Int)) then (some ((cdb (cdb (cdb (cdb (cdb (cdb True (decide ((ByteArray.size s) ≤ (9223372036854775807 : Nat)))) (decide ((ByteArray.size (Oc.takeR s (6 : Int))) ≤ (9223372036854775807 : Nat)))) (decide ((ByteArray.size (Oc.takeR (Oc.takeR s (6 : Int)) (1 : Int))) ≤ (9223372036854775807 : Nat)))) (decide ((ByteArray.size (Oc.takeR (Oc.takeR (Oc.takeR s (6 : Int)) (1 : Int)) (1 : Int))) ≤ (9223372036854775807 : Nat)))) (decide ((ByteArray.size (Oc.takeR (Oc.takeR (Oc.takeR (Oc.takeR s (6 : Int)) (1 : Int)) (1 : Int)) (1 : Int))) ≤ (9223372036854775807 : Nat)))) (decide ((ByteArray.size (Oc.takeR (Oc.takeR (Oc.takeR (Oc.takeR (Oc.takeR s (6 : Int)) (1 : Int)) (1 : Int)) (1 : Int)) (6 : Int))) ≤ (9223372036854775807 : Nat)))) ∧ (Φ (AV.v (Value.tuple #[(Value.agg #[(Value.int IntKind.i64 (0 : Int)), (Value.int IntKind.i64 (0 : Int)), (Value.int IntKind.i64 (0 : Int)), (Value.int IntKind.i64 (0 : Int)), (Value.int IntKind.i64 (0 : Int)), (Value.int IntKind.i64 (0 : Int))]), (Value.int IntKind.i64 (2 : Int))]))))) else (some ((cdb (cdb (cdb (cdb (cdb (cdb True (decide ((ByteArray.size s) ≤ (9223372036854775807 : Nat)))) (decide ((ByteArray.size (Oc.takeR s (6 : Int))) ≤ (9223372036854775807 : Nat)))) (decide ((ByteArray.size (Oc.takeR (Oc.takeR s (6 : Int)) (1 : Int))) ≤ (9223372036854775807 : Nat)))) (decide ((ByteArray.size (Oc.takeR (Oc.takeR (Oc.takeR s (6 : Int)) (1 : Int)) (1 : Int))) ≤ (9223372036854775807 : Nat)))) (decide ((ByteArray.size (Oc.takeR (Oc.takeR (Oc.takeR (Oc.takeR s (6 : Int)) (1 : Int)) (1 : Int)) (1 : Int))) ≤ (9223372036854775807 : Nat)))) (decide ((ByteArray.size (Oc.takeR (Oc.takeR (Oc.takeR (Oc.takeR (Oc.takeR s (6 : Int)) (1 : Int)) (1 : Int)) (1 : Int)) (6 : Int))) ≤ (9223372036854775807 : Nat)))) ∧ (Φ (AV.v (Value.tuple #[(Value.agg #[(Value.int IntKind.i64 (exInt (AV.v (Value.int IntKind.i64 (Oc.takeN s (6 : Int)))))), (Value.int IntKind.i64 (IntKind.wrap IntKind.i64 ((exInt (AV.v (Value.int IntKind.i64 (Oc.takeN (Oc.takeR s (6 : Int)) (1 : Int))))) - (1 : Int)))), (Value.int IntKind.i64 (exInt (AV.v (Value.int IntKind.i64 (Oc.takeN (Oc.takeR (Oc.takeR s (6 : Int)) (1 : Int)) (1 : Int)))))), (Value.int IntKind.i64 (exInt (AV.v (Value.int IntKind.i64 (Oc.takeN (Oc.takeR (Oc.takeR (Oc.takeR s (6 : Int)) (1 : Int)) (1 : Int)) (1 : Int)))))), (Value.int IntKind.i64 (exInt (AV.v (Value.int IntKind.i64 (Oc.takeN (Oc.takeR (Oc.takeR (Oc.takeR (Oc.takeR s (6 : Int)) (1 : Int)) (1 : Int)) (1 : Int)) (6 : Int)))))), (Value.int IntKind.i64 (exInt (AV.v (Value.int IntKind.i64 (Oc.takeN (Oc.takeR (Oc.takeR (Oc.takeR (Oc.takeR (Oc.takeR s (6 : Int)) (1 : Int)) (1 : Int)) (1 : Int)) (6 : Int)) (2 : Int))))))]), (Value.int IntKind.i64 (0 : Int))])))))))))))))) := by kernel_rfl
theorem t_rget (s : ByteArray) (Φ : AV → Prop) : callK ro24 (fun _ => false) prB 10 36 [.v (.string s)] (hp [] []) (fun r h => some (h.cd ∧ Φ r)) =
    (bif (decide (((ByteArray.size s) : Int) < (17 : Int))) then (some (True ∧ (Φ (AV.v (Value.tuple #[(Value.agg #[(Value.int IntKind.i64 (0 : Int)), (Value.int IntKind.i64 (0 : Int)), (Value.int IntKind.i64 (0 : Int)), (Value.int IntKind.i64 (0 : Int)), (Value.int IntKind.i64 (0 : Int)), (Value.int IntKind.i64 (0 : Int))]), (Value.int IntKind.i64 (3 : Int))]))))) else (bif (decide ((17 : Int) < ((ByteArray.size s) : Int))) then (some ((cdb True ((((true && (decide ((6 : Int) ≤ ((ByteArray.size s) : Int)))) && ((true && (decide ((1 : Int) ≤ ((ByteArray.size (Oc.takeR s (6 : Int))) : Int)))) && ((true && (decide ((1 : Int) ≤ ((ByteArray.size (Oc.takeR (Oc.takeR s (6 : Int)) (1 : Int))) : Int)))) && ((true && (decide ((1 : Int) ≤ ((ByteArray.size (Oc.takeR (Oc.takeR (Oc.takeR s (6 : Int)) (1 : Int)) (1 : Int))) : Int)))) && ((true && (decide ((6 : Int) ≤ ((ByteArray.size (Oc.takeR (Oc.takeR (Oc.takeR (Oc.takeR s (6 : Int)) (1 : Int)) (1 : Int)) (1 : Int))) : Int)))) && ((true && (decide ((2 : Int) ≤ ((ByteArray.size (Oc.takeR (Oc.takeR (Oc.takeR (Oc.takeR (Oc.takeR s (6 : Int)) (1 : Int)) (1 : Int)) (1 : Int)) (6 : Int))) : Int)))) && true)))))) && (decide ((ByteArray.size s) ≤ (9223372036854775807 : Nat)))) && true)) ∧ (Φ (AV.v (Value.tuple #[(Value.agg #[(Value.int IntKind.i64 (0 : Int)), (Value.int IntKind.i64 (0 : Int)), (Value.int IntKind.i64 (0 : Int)), (Value.int IntKind.i64 (0 : Int)), (Value.int IntKind.i64 (0 : Int)), (Value.int IntKind.i64 (0 : Int))]), (Value.int IntKind.i64 (2 : Int))]))))) else (bif ((Q24.chk24 (Q24.six [(exInt (AV.v (Value.int IntKind.i64 (Oc.takeN s (6 : Int))))), (IntKind.wrap IntKind.i64 ((exInt (AV.v (Value.int IntKind.i64 (Oc.takeN (Oc.takeR s (6 : Int)) (1 : Int))))) - (1 : Int))), (exInt (AV.v (Value.int IntKind.i64 (Oc.takeN (Oc.takeR (Oc.takeR s (6 : Int)) (1 : Int)) (1 : Int))))), (exInt (AV.v (Value.int IntKind.i64 (Oc.takeN (Oc.takeR (Oc.takeR (Oc.takeR s (6 : Int)) (1 : Int)) (1 : Int)) (1 : Int))))), (exInt (AV.v (Value.int IntKind.i64 (Oc.takeN (Oc.takeR (Oc.takeR (Oc.takeR (Oc.takeR s (6 : Int)) (1 : Int)) (1 : Int)) (1 : Int)) (6 : Int))))), (exInt (AV.v (Value.int IntKind.i64 (Oc.takeN (Oc.takeR (Oc.takeR (Oc.takeR (Oc.takeR (Oc.takeR s (6 : Int)) (1 : Int)) (1 : Int)) (1 : Int)) (6 : Int)) (2 : Int)))))])) != (0 : Int)) then (some ((cdb True ((((true && (decide ((6 : Int) ≤ ((ByteArray.size s) : Int)))) && ((true && (decide ((1 : Int) ≤ ((ByteArray.size (Oc.takeR s (6 : Int))) : Int)))) && ((true && (decide ((1 : Int) ≤ ((ByteArray.size (Oc.takeR (Oc.takeR s (6 : Int)) (1 : Int))) : Int)))) && ((true && (decide ((1 : Int) ≤ ((ByteArray.size (Oc.takeR (Oc.takeR (Oc.takeR s (6 : Int)) (1 : Int)) (1 : Int))) : Int)))) && ((true && (decide ((6 : Int) ≤ ((ByteArray.size (Oc.takeR (Oc.takeR (Oc.takeR (Oc.takeR s (6 : Int)) (1 : Int)) (1 : Int)) (1 : Int))) : Int)))) && ((true && (decide ((2 : Int) ≤ ((ByteArray.size (Oc.takeR (Oc.takeR (Oc.takeR (Oc.takeR (Oc.takeR s (6 : Int)) (1 : Int)) (1 : Int)) (1 : Int)) (6 : Int))) : Int)))) && true)))))) && (decide ((ByteArray.size s) ≤ (9223372036854775807 : Nat)))) && true)) ∧ (Φ (AV.v (Value.tuple #[(Value.agg #[(Value.int IntKind.i64 (0 : Int)), (Value.int IntKind.i64 (0 : Int)), (Value.int IntKind.i64 (0 : Int)), (Value.int IntKind.i64 (0 : Int)), (Value.int IntKind.i64 (0 : Int)), (Value.int IntKind.i64 (0 : Int))]), (Value.int IntKind.i64 (2 : Int))]))))) else (some ((cdb True ((((true && (decide ((6 : Int) ≤ ((ByteArray.size s) : Int)))) && ((true && (decide ((1 : Int) ≤ ((ByteArray.size (Oc.takeR s (6 : Int))) : Int)))) && ((true && (decide ((1 : Int) ≤ ((ByteArray.size (Oc.takeR (Oc.takeR s (6 : Int)) (1 : Int))) : Int)))) && ((true && (decide ((1 : Int) ≤ ((ByteArray.size (Oc.takeR (Oc.takeR (Oc.takeR s (6 : Int)) (1 : Int)) (1 : Int))) : Int)))) && ((true && (decide ((6 : Int) ≤ ((ByteArray.size (Oc.takeR (Oc.takeR (Oc.takeR (Oc.takeR s (6 : Int)) (1 : Int)) (1 : Int)) (1 : Int))) : Int)))) && ((true && (decide ((2 : Int) ≤ ((ByteArray.size (Oc.takeR (Oc.takeR (Oc.takeR (Oc.takeR (Oc.takeR s (6 : Int)) (1 : Int)) (1 : Int)) (1 : Int)) (6 : Int))) : Int)))) && true)))))) && (decide ((ByteArray.size s) ≤ (9223372036854775807 : Nat)))) && true)) ∧ (Φ (AV.v (Value.tuple #[(Value.agg #[(Value.int IntKind.i64 (exInt (AV.v (Value.int IntKind.i64 (Oc.takeN s (6 : Int)))))), (Value.int IntKind.i64 (IntKind.wrap IntKind.i64 ((exInt (AV.v (Value.int IntKind.i64 (Oc.takeN (Oc.takeR s (6 : Int)) (1 : Int))))) - (1 : Int)))), (Value.int IntKind.i64 (exInt (AV.v (Value.int IntKind.i64 (Oc.takeN (Oc.takeR (Oc.takeR s (6 : Int)) (1 : Int)) (1 : Int)))))), (Value.int IntKind.i64 (exInt (AV.v (Value.int IntKind.i64 (Oc.takeN (Oc.takeR (Oc.takeR (Oc.takeR s (6 : Int)) (1 : Int)) (1 : Int)) (1 : Int)))))), (Value.int IntKind.i64 (exInt (AV.v (Value.int IntKind.i64 (Oc.takeN (Oc.takeR (Oc.takeR (Oc.takeR (Oc.takeR s (6 : Int)) (1 : Int)) (1 : Int)) (1 : Int)) (6 : Int)))))), (Value.int IntKind.i64 (exInt (AV.v (Value.int IntKind.i64 (Oc.takeN (Oc.takeR (Oc.takeR (Oc.takeR (Oc.takeR (Oc.takeR s (6 : Int)) (1 : Int)) (1 : Int)) (1 : Int)) (6 : Int)) (2 : Int))))))]), (Value.int IntKind.i64 (0 : Int))])))))))) := by kernel_rfl
end Go.Proofs.YtlonpmcgejdkkaaGreatDoor.AE.Q24
namespace Go.Proofs.YtlonpmcgejdkkaaGreatDoor.AE.Q24
set_option maxRecDepth 100000
open Go.RowKit Oc Nm
/-! Takes. -/
theorem take_ok_of {r : ByteArray} {m : Int} (h : (takeE r m != 0) = false) (h1 : 1 ≤ m) (h2 : m ≤ 6) : m ≤ r.size ∧ ((takeR r m).size : Int) = r.size - m := by
  have h : takeE r m = 0 := by simpa using h
  unfold takeE at h
  rw [if_neg (by omega)] at h
  split at h
  · cases h
  · rename_i hlt
    have hin : inT r m = true := by simp only [inT, Bool.and_eq_true, decide_eq_true_eq]; omega
    refine ⟨by omega, ?_⟩
    rw [takeR, if_pos hin, ByteArray.size_extract]
    omega
theorem take_bad_of {r : ByteArray} {m : Int} (h : (takeE r m != 0) = true) (h1 : 1 ≤ m) (h2 : m ≤ 6) : takeE r m = 3 ∧ (r.size : Int) < m := by
  have h : takeE r m ≠ 0 := by simpa using h
  unfold takeE at h ⊢
  rw [if_neg (by omega)] at h ⊢
  split at h
  · rename_i hlt; rw [if_pos hlt]; exact ⟨rfl, hlt⟩
  · exact absurd rfl h
theorem takeR_size {r : ByteArray} {m : Int} (h1 : 1 ≤ m) (h2 : m ≤ 6) (h : m ≤ r.size) : ((takeR r m).size : Int) = r.size - m := by
  have hin : inT r m = true := by simp only [inT, Bool.and_eq_true, decide_eq_true_eq]; omega
  rw [takeR, if_pos hin, ByteArray.size_extract]
  omega
def w24 : List Int := [6, 1, 1, 1, 6, 2]
def vals24 (s : ByteArray) : Nat → Int := six [(numsOf w24 s).getD 0 0, IntKind.wrap .i64 ((numsOf w24 s).getD 1 0 - 1), (numsOf w24 s).getD 2 0, (numsOf w24 s).getD 3 0, (numsOf w24 s).getD 4 0, (numsOf w24 s).getD 5 0]
def getE (s : ByteArray) : Int := if s.size < 17 then 3 else if 17 < s.size ∨ chk24 (vals24 s) ≠ 0 then 2 else 0
def getN (s : ByteArray) : Nat → Int := if getE s = 0 then vals24 s else fun _ => 0
def reqV (f : Nat → Int) : Value := .agg #[.int .i64 (f 0), .int .i64 (f 1), .int .i64 (f 2), .int .i64 (f 3), .int .i64 (f 4), .int .i64 (f 5)]
def getV (s : ByteArray) : Value := .tuple #[reqV (getN s), .int .i64 (getE s)]
theorem get_err {s : ByteArray} {e : Int} (h : getE s = e) (hne : e ≠ 0) : AV.v (.tuple #[reqV fun _ => 0, .int .i64 e]) = AV.v (getV s) := by
  unfold getV getN
  rw [h, if_neg hne]
theorem get_good {s : ByteArray} (h : getE s = 0) : AV.v (.tuple #[reqV (vals24 s), .int .i64 0]) = AV.v (getV s) := by
  unfold getV getN
  rw [h, if_pos rfl]
theorem e3 {s : ByteArray} (h : (s.size : Int) < 17) : getE s = 3 := by unfold getE; rw [if_pos (by omega)]
theorem e2 {s : ByteArray} (h : (17 : Int) ≤ s.size) (h2 : (17 : Int) < s.size ∨ chk24 (vals24 s) ≠ 0) : getE s = 2 := by
  unfold getE; rw [if_neg (by omega), if_pos (by rcases h2 with h2 | h2; exact .inl (by omega); exact .inr h2)]
theorem e0 {s : ByteArray} (h : (s.size : Int) = 17) (h2 : chk24 (vals24 s) = 0) : getE s = 0 := by
  unfold getE; rw [if_neg (by omega), if_neg (by rintro (h3 | h3); omega; exact h3 h2)]
theorem en24 {s : ByteArray} (h : (17 : Int) ≤ s.size) : enough w24 s = true := by
  have t := fun (r : ByteArray) (m : Int) (h1 : 1 ≤ m) (h2 : m ≤ 6) (h : m ≤ r.size) => (show inT r m = true by simp only [inT, Bool.and_eq_true, decide_eq_true_eq]; omega)
  obtain ⟨s1, q1⟩ : ∃ x, x = takeR s 6 := ⟨_, rfl⟩
  obtain ⟨s2, q2⟩ : ∃ x, x = takeR s1 1 := ⟨_, rfl⟩
  obtain ⟨s3, q3⟩ : ∃ x, x = takeR s2 1 := ⟨_, rfl⟩
  obtain ⟨s4, q4⟩ : ∃ x, x = takeR s3 1 := ⟨_, rfl⟩
  obtain ⟨s5, q5⟩ : ∃ x, x = takeR s4 6 := ⟨_, rfl⟩
  obtain ⟨s6, q6⟩ : ∃ x, x = takeR s5 2 := ⟨_, rfl⟩
  have a0 := @takeR_size s 6 (by decide) (by decide) (by omega)
  rw [← q1] at a0
  have a1 := @takeR_size s1 1 (by decide) (by decide) (by omega)
  rw [← q2] at a1
  have a2 := @takeR_size s2 1 (by decide) (by decide) (by omega)
  rw [← q3] at a2
  have a3 := @takeR_size s3 1 (by decide) (by decide) (by omega)
  rw [← q4] at a3
  have a4 := @takeR_size s4 6 (by decide) (by decide) (by omega)
  rw [← q5] at a4
  have a5 := @takeR_size s5 2 (by decide) (by decide) (by omega)
  rw [← q6] at a5
  simp only [w24, enough, Bool.and_eq_true, and_true]
  rw [← q1, ← q2, ← q3, ← q4, ← q5]
  refine ⟨t _ _ (by decide) (by decide) (by omega), t _ _ (by decide) (by decide) (by omega), t _ _ (by decide) (by decide) (by omega), t _ _ (by decide) (by decide) (by omega), t _ _ (by decide) (by decide) (by omega), t _ _ (by decide) (by decide) (by omega)⟩
theorem fs_rget (s : ByteArray) (hs : s.size ≤ maxLen) : Fs Tryz.prog ro24 36 [.v (.string s)] (hp [] []) fun r _ => r = .v (getV s) := by
  refine Fs.of_call knownB (t_rget s _) ?_
  have cd : (17 : Int) ≤ s.size → (enough w24 s && decide (s.size ≤ maxLen) && true) = true := fun h => by rw [en24 h, decide_eq_true hs]; rfl
  refine holds_bif (fun h => ?_) (fun h => ?_)
  · exact ⟨trivial, get_err (e3 (of_decide_eq_true h)) (by decide)⟩
  have h := of_decide_eq_false h
  have h14 : (17 : Int) ≤ s.size := by omega
  refine holds_bif (fun h2 => ?_) (fun h2 => ?_)
  · exact ⟨cdb_iff.2 ⟨trivial, cd h14⟩, get_err (e2 h14 (.inl (of_decide_eq_true h2))) (by decide)⟩
  have h2 := of_decide_eq_false h2
  refine holds_bif (fun h3 => ?_) (fun h3 => ?_)
  · have h3 : (chk24 (vals24 s) != 0) = true := Eq.trans (by kernel_rfl) h3
    exact ⟨cdb_iff.2 ⟨trivial, cd h14⟩, get_err (e2 h14 (.inr (by simpa using h3))) (by decide)⟩
  · have h3 : (chk24 (vals24 s) != 0) = false := Eq.trans (by kernel_rfl) h3
    refine ⟨cdb_iff.2 ⟨trivial, cd h14⟩, ?_⟩
    rw [← get_good (e0 (by omega) (by simpa using h3))]
    kernel_rfl
end Go.Proofs.YtlonpmcgejdkkaaGreatDoor.AE.Q24
namespace Go.Proofs.YtlonpmcgejdkkaaGreatDoor.AE.Q24
set_option maxRecDepth 100000
open Go.RowKit Oc Nm
set_option maxHeartbeats 1000000 in
theorem fs_get (s : ByteArray) (hs : s.size ≤ maxLen) : Fs Tryz.prog ro24 32 [.v (.string s)] (hp [] []) fun r _ => r = .v (getV s) := by
  refine Fs.of_call knownB (t_get s _) ?_
  unfold maxLen at hs
  obtain ⟨s1, q1⟩ : ∃ x, x = takeR s 6 := ⟨_, rfl⟩
  obtain ⟨s2, q2⟩ : ∃ x, x = takeR s1 1 := ⟨_, rfl⟩
  obtain ⟨s3, q3⟩ : ∃ x, x = takeR s2 1 := ⟨_, rfl⟩
  obtain ⟨s4, q4⟩ : ∃ x, x = takeR s3 1 := ⟨_, rfl⟩
  obtain ⟨s5, q5⟩ : ∃ x, x = takeR s4 6 := ⟨_, rfl⟩
  obtain ⟨s6, q6⟩ : ∃ x, x = takeR s5 2 := ⟨_, rfl⟩
  rw [← q1, ← q2, ← q3, ← q4, ← q5, ← q6]
  refine holds_bif (fun h => holds_bif (fun _ => ?_) (fun h' => by rw [h] at h'; cases h')) (fun h0 => ?_)
  · have b := take_bad_of h (by decide) (by decide)
    rw [b.1]
    refine ⟨?_, get_err (e3 (by omega)) (by decide)⟩
    repeat' first
      | with_reducible exact trivial
      | with_reducible refine cdb_iff.2 ⟨?_, ?_⟩
    all_goals (refine decide_eq_true ?_; omega)
  have o0 := take_ok_of h0 (by decide) (by decide)
  rw [← q1] at o0
  refine holds_bif (fun h => holds_bif (fun _ => ?_) (fun h' => by rw [h] at h'; cases h')) (fun h1 => ?_)
  · have b := take_bad_of h (by decide) (by decide)
    rw [b.1]
    refine ⟨?_, get_err (e3 (by omega)) (by decide)⟩
    repeat' first
      | with_reducible exact trivial
      | with_reducible refine cdb_iff.2 ⟨?_, ?_⟩
    all_goals (refine decide_eq_true ?_; omega)
  have o1 := take_ok_of h1 (by decide) (by decide)
  rw [← q2] at o1
  refine holds_bif (fun h => holds_bif (fun _ => ?_) (fun h' => by rw [h] at h'; cases h')) (fun h2 => ?_)
  · have b := take_bad_of h (by decide) (by decide)
    rw [b.1]
    refine ⟨?_, get_err (e3 (by omega)) (by decide)⟩
    repeat' first
      | with_reducible exact trivial
      | with_reducible refine cdb_iff.2 ⟨?_, ?_⟩
    all_goals (refine decide_eq_true ?_; omega)
  have o2 := take_ok_of h2 (by decide) (by decide)
  rw [← q3] at o2
  refine holds_bif (fun h => holds_bif (fun _ => ?_) (fun h' => by rw [h] at h'; cases h')) (fun h3 => ?_)
  · have b := take_bad_of h (by decide) (by decide)
    rw [b.1]
    refine ⟨?_, get_err (e3 (by omega)) (by decide)⟩
    repeat' first
      | with_reducible exact trivial
      | with_reducible refine cdb_iff.2 ⟨?_, ?_⟩
    all_goals (refine decide_eq_true ?_; omega)
  have o3 := take_ok_of h3 (by decide) (by decide)
  rw [← q4] at o3
  refine holds_bif (fun h => holds_bif (fun _ => ?_) (fun h' => by rw [h] at h'; cases h')) (fun h4 => ?_)
  · have b := take_bad_of h (by decide) (by decide)
    rw [b.1]
    refine ⟨?_, get_err (e3 (by omega)) (by decide)⟩
    repeat' first
      | with_reducible exact trivial
      | with_reducible refine cdb_iff.2 ⟨?_, ?_⟩
    all_goals (refine decide_eq_true ?_; omega)
  have o4 := take_ok_of h4 (by decide) (by decide)
  rw [← q5] at o4
  refine holds_bif (fun h => holds_bif (fun _ => ?_) (fun h' => by rw [h] at h'; cases h')) (fun h5 => ?_)
  · have b := take_bad_of h (by decide) (by decide)
    rw [b.1]
    refine ⟨?_, get_err (e3 (by omega)) (by decide)⟩
    repeat' first
      | with_reducible exact trivial
      | with_reducible refine cdb_iff.2 ⟨?_, ?_⟩
    all_goals (refine decide_eq_true ?_; omega)
  have o5 := take_ok_of h5 (by decide) (by decide)
  rw [← q6] at o5
  refine holds_bif (fun h => by rw [h5] at h; cases h) (fun _ => ?_)
  refine holds_bif (fun h => ?_) (fun h => ?_)
  · have h := of_decide_eq_true h
    refine ⟨?_, get_err (e2 (by omega) (.inl (by omega))) (by decide)⟩
    repeat' first
      | with_reducible exact trivial
      | with_reducible refine cdb_iff.2 ⟨?_, ?_⟩
    all_goals (refine decide_eq_true ?_; omega)
  have h := of_decide_eq_false h
  refine holds_bif (fun h3 => ?_) (fun h3 => ?_)
  · have h3 : (chk24 (vals24 s) != 0) = true := Eq.trans (by subst q6 q5 q4 q3 q2 q1; kernel_rfl) h3
    refine ⟨?_, get_err (e2 (by omega) (.inr (by simpa using h3))) (by decide)⟩
    repeat' first
      | with_reducible exact trivial
      | with_reducible refine cdb_iff.2 ⟨?_, ?_⟩
    all_goals (refine decide_eq_true ?_; omega)
  · have h3 : (chk24 (vals24 s) != 0) = false := Eq.trans (by subst q6 q5 q4 q3 q2 q1; kernel_rfl) h3
    refine ⟨?_, ?_⟩
    · repeat' first
        | with_reducible exact trivial
        | with_reducible refine cdb_iff.2 ⟨?_, ?_⟩
      all_goals (refine decide_eq_true ?_; omega)
    · rw [← get_good (e0 (by omega) (by simpa using h3))]
      subst q6 q5 q4 q3 q2 q1
      kernel_rfl
/-! Bodies. -/
def bytes24 (f : Nat → Int) : List UInt8 := be 6 (f 0).toNat ++ be 1 (f 1 + 1).toNat ++ be 1 (f 2).toNat ++ be 1 (f 3).toNat ++ be 6 (f 4).toNat ++ be 2 (f 5).toNat
def putR (f : Nat → Int) : ByteArray := if okP f then ⟨(bytes24 f).toArray⟩ else ⟨#[]⟩
def putV (f : Nat → Int) : Value := .tuple #[.string (putR f), .int .i64 (chk24 f)]
theorem fits_of {n m : Int} (h1 : 1 ≤ m) (h2 : m ≤ 6) (h3 : 0 ≤ n) (h4 : n < 256 ^ m.toNat) : fits n m = true := by
  simp only [fits, Bool.and_eq_true, decide_eq_true_eq]; exact ⟨⟨⟨h1, h2⟩, h3⟩, h4⟩
theorem putS_mk {l : List UInt8} {n m : Int} (h : fits n m = true) : putS ⟨l.toArray⟩ n m = ⟨(l ++ be m.toNat n.toNat).toArray⟩ := by
  unfold putS; rw [if_pos h]
theorem num_mk {n m : Int} (h : fits n m = true) : numStr n m = ⟨(be m.toNat n.toNat).toArray⟩ := by
  simp only [fits, Bool.and_eq_true, decide_eq_true_eq] at h
  unfold numStr; rw [if_neg (by omega)]
theorem mk_app (l t : List UInt8) : (⟨l.toArray⟩ : ByteArray) ++ ⟨t.toArray⟩ = ⟨(l ++ t).toArray⟩ := by
  apply ByteArray.ext; simp
theorem mk_size (l : List UInt8) : (⟨l.toArray⟩ : ByteArray).size = l.length := by simp [ByteArray.size]
theorem fits24 {f : Nat → Int} (h : okP f) : fits (f 0) 6 = true ∧ fits (f 1 + 1) 1 = true ∧ fits (f 2) 1 = true ∧ fits (f 3) 1 = true ∧ fits (f 4) 6 = true ∧ fits (f 5) 2 = true := by
  obtain ⟨a0, b0, a1, b1, a2, b2, _, a3, b3, a4, b4, a5, b5⟩ := h
  refine ⟨fits_of (by decide) (by decide) (by omega) ?_, fits_of (by decide) (by decide) (by omega) ?_, fits_of (by decide) (by decide) (by omega) ?_, fits_of (by decide) (by decide) (by omega) ?_, fits_of (by decide) (by decide) (by omega) ?_, fits_of (by decide) (by decide) (by omega) ?_⟩
  all_goals (simp; omega)
theorem exInt_v (k : IntKind) (n : Int) : exInt (AV.v (.int k n)) = n := rfl
theorem wr1 {f : Nat → Int} (h : okP f) : IntKind.wrap .i64 (f 1 + 1) = f 1 + 1 := by
  obtain ⟨a0, b0, a1, b1, _⟩ := h
  rw [IntKind.wrap_i64]; omega
theorem put_bad {f : Nat → Int} (h : ¬ okP f) : AV.v (.tuple #[.string ⟨#[]⟩, .int .i64 1]) = AV.v (putV f) := by
  unfold putV putR chk24; rw [if_neg h, decide_eq_false h]; rfl
theorem put_good {f : Nat → Int} (h : okP f) : AV.v (.tuple #[.string ⟨(bytes24 f).toArray⟩, .int .i64 0]) = AV.v (putV f) := by
  unfold putV putR chk24; rw [if_pos h, decide_eq_true h]; rfl
theorem chk_ok {f : Nat → Int} (h : (chk24 f != 0) = false) : okP f := by
  unfold chk24 at h
  by_cases hok : okP f
  · exact hok
  · rw [decide_eq_false hok] at h; cases h
theorem chk_bad {f : Nat → Int} (h : (chk24 f != 0) = true) : ¬ okP f := fun hok => by
  unfold chk24 at h; rw [decide_eq_true hok] at h; cases h
theorem fs_put (f : Nat → Int) : Fs Tryz.prog ro24 123 [req f] (hp [] []) fun r _ => r = .v (putV f) := by
  refine Fs.of_call knownB (t_put f _) ?_
  refine holds_bif (fun h => ?_) (fun h => ?_)
  · have h : (chk24 f != 0) = true := Eq.trans (by kernel_rfl) h
    refine ⟨trivial, ?_⟩
    rw [← put_bad (chk_bad h)]
    have hc : chk24 f = 1 := by unfold chk24; rw [decide_eq_false (chk_bad h)]; rfl
    show AV.v (.tuple #[.string ⟨#[]⟩, .int .i64 (chk24 f)]) = _
    rw [hc]
  · have h : (chk24 f != 0) = false := Eq.trans (by kernel_rfl) h
    have hok := chk_ok h
    obtain ⟨g0, g1, g2, g3, g4, g5⟩ := fits24 hok
    have e0 : (ByteArray.mk (Array.mk (@List.nil UInt8))) = ⟨([] : List UInt8).toArray⟩ := rfl
    rw [e0]
    simp only [exInt_v, wr1 hok, putS_mk g0, putS_mk g1, putS_mk g2, putS_mk g3, putS_mk g4, putS_mk g5, mk_size]
    refine ⟨?_, put_good hok⟩
    repeat' first
      | with_reducible exact trivial
      | with_reducible refine cdb_iff.2 ⟨?_, ?_⟩
    all_goals (refine decide_eq_true ?_; simp [be_length])
theorem fs_rput (f : Nat → Int) : Fs Tryz.prog ro24 41 [req f] (hp [] []) fun r _ => r = .v (putV f) := by
  refine Fs.of_call knownB (t_rput f _) ?_
  refine holds_bif (fun h => ?_) (fun h => ?_)
  · have h : (chk24 f != 0) = true := Eq.trans (by kernel_rfl) h
    exact ⟨trivial, put_bad (chk_bad h)⟩
  · have h : (chk24 f != 0) = false := Eq.trans (by kernel_rfl) h
    have hok := chk_ok h
    obtain ⟨g0, g1, g2, g3, g4, g5⟩ := fits24 hok
    have e0 : (ByteArray.mk (Array.mk (@List.nil UInt8))) = ⟨([] : List UInt8).toArray⟩ := rfl
    rw [e0]
    simp only [exInt_v, wr1 hok, num_mk g0, num_mk g1, num_mk g2, num_mk g3, num_mk g4, num_mk g5, mk_app, mk_size, List.nil_append, show (6 : Int).toNat = 6 from rfl, show (1 : Int).toNat = 1 from rfl, show (2 : Int).toNat = 2 from rfl]
    refine ⟨?_, by have hg := put_good hok; unfold bytes24 at hg; exact hg⟩
    obtain ⟨a0, b0, a1, b1, a2, b2, _, a3, b3, a4, b4, a5, b5⟩ := hok
    repeat' first
      | with_reducible exact trivial
      | with_reducible refine cdb_iff.2 ⟨?_, ?_⟩
    all_goals (refine decide_eq_true ?_; first | omega | simp [be_length])
end Go.Proofs.YtlonpmcgejdkkaaGreatDoor.AE.Q24
namespace Go.Proofs.YtlonpmcgejdkkaaGreatDoor.AE.P26
set_option maxRecDepth 100000
open Go.RowKit Oc
def ro26 : Nat → Option (List Value) := fun b => match b with
 | 1 => some ([1, 4, 2, 2, 1, 1, 1, 1, 1].map fun (n : Int) => .int .i64 n)
  | _ => none
noncomputable def prA : FuncId → Option (List AV → AH → Ans) := fun g => match g with
  | 67 => some (pure? putP)
  | 50 => some (own? (takeP 116))
  | 70 => some (pure? numP)
  | 83 => some (pure? ofP)
  | _ => none
theorem knownA : Known ro26 prA := by
  intro g p h
  unfold prA at h
  split at h
  · cases h; exact put_ok _
  · cases h; exact take_ok _
  · cases h; exact num_ok _
  · cases h; exact of_ok _
  · cases h
def push (f : Nat → Int) : AV := .v (.agg #[.int .i64 (f 0), .int .i64 (f 1), .int .i64 (f 2), .int .i64 (f 3), .int .i64 (f 4), .int .i64 (f 5), .int .i64 (f 6), .int .i64 (f 7), .int .i64 (f 8)])
theorem t_check (f : Nat → Int) (Φ : AV → Prop) : callK ro26 (fun _ => false) prA 10 57 [push f] (hp [] []) (fun r h => some (h.cd ∧ Φ r)) =
    (bif (decide ((8 : Int) ≤ (f (0 : Nat)))) then (some (True ∧ (Φ (AV.v (Value.int IntKind.i64 (1 : Int)))))) else (bif (decide ((f (0 : Nat)) < (0 : Int))) then (some (True ∧ (Φ (AV.v (Value.int IntKind.i64 (1 : Int)))))) else (bif ((Int.fdiv (f (0 : Nat)) (256 : Int)) != (0 : Int)) then (some (True ∧ (Φ (AV.v (Value.int IntKind.i64 (1 : Int)))))) else (bif (decide ((f (1 : Nat)) < (0 : Int))) then (some (True ∧ (Φ (AV.v (Value.int IntKind.i64 (1 : Int)))))) else (bif ((Int.fdiv (f (1 : Nat)) (4294967296 : Int)) != (0 : Int)) then (some (True ∧ (Φ (AV.v (Value.int IntKind.i64 (1 : Int)))))) else (bif (decide ((f (2 : Nat)) < (0 : Int))) then (some (True ∧ (Φ (AV.v (Value.int IntKind.i64 (1 : Int)))))) else (bif ((Int.fdiv (f (2 : Nat)) (65536 : Int)) != (0 : Int)) then (some (True ∧ (Φ (AV.v (Value.int IntKind.i64 (1 : Int)))))) else (bif (decide ((f (3 : Nat)) < (0 : Int))) then (some (True ∧ (Φ (AV.v (Value.int IntKind.i64 (1 : Int)))))) else (bif ((Int.fdiv (f (3 : Nat)) (65536 : Int)) != (0 : Int)) then (some (True ∧ (Φ (AV.v (Value.int IntKind.i64 (1 : Int)))))) else (bif (decide ((f (4 : Nat)) < (0 : Int))) then (some (True ∧ (Φ (AV.v (Value.int IntKind.i64 (1 : Int)))))) else (bif ((Int.fdiv (f (4 : Nat)) (256 : Int)) != (0 : Int)) then (some (True ∧ (Φ (AV.v (Value.int IntKind.i64 (1 : Int)))))) else (bif (decide ((f (5 : Nat)) < (0 : Int))) then (some (True ∧ (Φ (AV.v (Value.int IntKind.i64 (1 : Int)))))) else (bif ((Int.fdiv (f (5 : Nat)) (256 : Int)) != (0 : Int)) then (some (True ∧ (Φ (AV.v (Value.int IntKind.i64 (1 : Int)))))) else (bif (decide ((f (6 : Nat)) < (0 : Int))) then (some (True ∧ (Φ (AV.v (Value.int IntKind.i64 (1 : Int)))))) else (bif ((Int.fdiv (f (6 : Nat)) (256 : Int)) != (0 : Int)) then (some (True ∧ (Φ (AV.v (Value.int IntKind.i64 (1 : Int)))))) else (bif (decide ((f (7 : Nat)) < (0 : Int))) then (some (True ∧ (Φ (AV.v (Value.int IntKind.i64 (1 : Int)))))) else (bif ((Int.fdiv (f (7 : Nat)) (256 : Int)) != (0 : Int)) then (some (True ∧ (Φ (AV.v (Value.int IntKind.i64 (1 : Int)))))) else (bif (decide ((f (8 : Nat)) < (0 : Int))) then (some (True ∧ (Φ (AV.v (Value.int IntKind.i64 (1 : Int)))))) else (bif ((Int.fdiv (f (8 : Nat)) (256 : Int)) != (0 : Int)) then (some (True ∧ (Φ (AV.v (Value.int IntKind.i64 (1 : Int)))))) else (some (True ∧ (Φ (AV.v (Value.int IntKind.i64 (0 : Int))))))))))))))))))))))))) := by kernel_rfl
theorem t_rcheck (f : Nat → Int) (Φ : AV → Prop) : callK ro26 (fun _ => false) prA 10 66 [push f] (hp [] []) (fun r h => some (h.cd ∧ Φ r)) =
    (bif (decide ((f (2 : Nat)) < (0 : Int))) then (some (True ∧ (Φ (AV.v (Value.int IntKind.i64 (1 : Int)))))) else (bif (decide ((65535 : Int) < (f (2 : Nat)))) then (some (True ∧ (Φ (AV.v (Value.int IntKind.i64 (1 : Int)))))) else (bif (decide ((f (3 : Nat)) < (0 : Int))) then (some (True ∧ (Φ (AV.v (Value.int IntKind.i64 (1 : Int)))))) else (bif (decide ((65535 : Int) < (f (3 : Nat)))) then (some (True ∧ (Φ (AV.v (Value.int IntKind.i64 (1 : Int)))))) else (bif (decide ((f (4 : Nat)) < (0 : Int))) then (some (True ∧ (Φ (AV.v (Value.int IntKind.i64 (1 : Int)))))) else (bif (decide ((65535 : Int) < (f (4 : Nat)))) then (some (True ∧ (Φ (AV.v (Value.int IntKind.i64 (1 : Int)))))) else (bif (decide ((255 : Int) < (f (4 : Nat)))) then (some (True ∧ (Φ (AV.v (Value.int IntKind.i64 (1 : Int)))))) else (bif (decide ((f (5 : Nat)) < (0 : Int))) then (some (True ∧ (Φ (AV.v (Value.int IntKind.i64 (1 : Int)))))) else (bif (decide ((65535 : Int) < (f (5 : Nat)))) then (some (True ∧ (Φ (AV.v (Value.int IntKind.i64 (1 : Int)))))) else (bif (decide ((255 : Int) < (f (5 : Nat)))) then (some (True ∧ (Φ (AV.v (Value.int IntKind.i64 (1 : Int)))))) else (bif (decide ((f (6 : Nat)) < (0 : Int))) then (some (True ∧ (Φ (AV.v (Value.int IntKind.i64 (1 : Int)))))) else (bif (decide ((65535 : Int) < (f (6 : Nat)))) then (some (True ∧ (Φ (AV.v (Value.int IntKind.i64 (1 : Int)))))) else (bif (decide ((255 : Int) < (f (6 : Nat)))) then (some (True ∧ (Φ (AV.v (Value.int IntKind.i64 (1 : Int)))))) else (bif (decide ((f (7 : Nat)) < (0 : Int))) then (some (True ∧ (Φ (AV.v (Value.int IntKind.i64 (1 : Int)))))) else (bif (decide ((65535 : Int) < (f (7 : Nat)))) then (some (True ∧ (Φ (AV.v (Value.int IntKind.i64 (1 : Int)))))) else (bif (decide ((255 : Int) < (f (7 : Nat)))) then (some (True ∧ (Φ (AV.v (Value.int IntKind.i64 (1 : Int)))))) else (bif (decide ((f (8 : Nat)) < (0 : Int))) then (some (True ∧ (Φ (AV.v (Value.int IntKind.i64 (1 : Int)))))) else (bif (decide ((65535 : Int) < (f (8 : Nat)))) then (some (True ∧ (Φ (AV.v (Value.int IntKind.i64 (1 : Int)))))) else (bif (decide ((255 : Int) < (f (8 : Nat)))) then (some (True ∧ (Φ (AV.v (Value.int IntKind.i64 (1 : Int)))))) else (bif (decide ((f (0 : Nat)) < (0 : Int))) then (some (True ∧ (Φ (AV.v (Value.int IntKind.i64 (1 : Int)))))) else (bif (decide ((7 : Int) < (f (0 : Nat)))) then (some (True ∧ (Φ (AV.v (Value.int IntKind.i64 (1 : Int)))))) else (bif (decide ((f (1 : Nat)) < (0 : Int))) then (some (True ∧ (Φ (AV.v (Value.int IntKind.i64 (1 : Int)))))) else (bif (decide ((4294967295 : Int) < (f (1 : Nat)))) then (some (True ∧ (Φ (AV.v (Value.int IntKind.i64 (1 : Int)))))) else (some (True ∧ (Φ (AV.v (Value.int IntKind.i64 (0 : Int))))))))))))))))))))))))))))) := by kernel_rfl
theorem t_ofs (f : Nat → Int) (tip : Tip) (Φ : AV → Prop) : callK ro26 (fun _ => false) prA 10 65 [.lst 1 [.v (.int .i64 (f 0)), .v (.int .i64 (f 1)), .v (.int .i64 (f 2)), .v (.int .i64 (f 3)), .v (.int .i64 (f 4)), .v (.int .i64 (f 5)), .v (.int .i64 (f 6))] tip] (hp [] []) (fun r h => some (h.cd ∧ Φ r)) =
    (some (True ∧ (Φ (AV.v (Value.agg #[(Value.int IntKind.i64 (f (0 : Nat))), (Value.int IntKind.i64 (f (1 : Nat))), (Value.int IntKind.i64 (f (2 : Nat))), (Value.int IntKind.i64 (f (3 : Nat))), (Value.int IntKind.i64 (f (4 : Nat))), (Value.int IntKind.i64 (f (5 : Nat))), (Value.int IntKind.i64 (f (6 : Nat)))]))))) := by kernel_rfl
end Go.Proofs.YtlonpmcgejdkkaaGreatDoor.AE.P26
namespace Go.Proofs.YtlonpmcgejdkkaaGreatDoor.AE.P26
set_option maxRecDepth 100000
open Go.RowKit Oc Nm
def okP (f : Nat → Int) : Prop := 0 ≤ f 0 ∧ f 0 < 8 ∧ 0 ≤ f 1 ∧ f 1 < 4294967296 ∧ 0 ≤ f 2 ∧ f 2 < 65536 ∧ 0 ≤ f 3 ∧ f 3 < 65536 ∧ 0 ≤ f 4 ∧ f 4 < 256 ∧ 0 ≤ f 5 ∧ f 5 < 256 ∧ 0 ≤ f 6 ∧ f 6 < 256 ∧ 0 ≤ f 7 ∧ f 7 < 256 ∧ 0 ≤ f 8 ∧ f 8 < 256
instance (f : Nat → Int) : Decidable (okP f) := by unfold okP; infer_instance
def chk26 (f : Nat → Int) : Int := bif decide (okP f) then 0 else 1
theorem chk_no {f : Nat → Int} (h : ¬ okP f) : AV.v (.int .i64 1) = AV.v (.int .i64 (chk26 f)) := by
  unfold chk26; rw [decide_eq_false h]; rfl
theorem chk_yes {f : Nat → Int} (h : okP f) : AV.v (.int .i64 0) = AV.v (.int .i64 (chk26 f)) := by
  unfold chk26; rw [decide_eq_true h]; rfl
theorem fd (n m : Int) (h : 0 ≤ m) : Int.fdiv n m = n / m := Int.fdiv_eq_ediv_of_nonneg n h
theorem fs_check (f : Nat → Int) : Fs Tryz.prog ro26 57 [push f] (hp [] []) fun r _ => r = .v (.int .i64 (chk26 f)) := by
  refine Fs.of_call knownA (t_check f _) ?_
  repeat' (refine holds_bif (fun h => ?_) (fun h => ?_))
  all_goals
    refine ⟨trivial, ?_⟩
    simp only [decide_eq_true_eq, decide_eq_false_iff_not, bne_iff_ne, bne_eq_false_iff_eq, fd _ _ (show (0 : Int) ≤ 256 by decide), fd _ _ (show (0 : Int) ≤ 65536 by decide), fd _ _ (show (0 : Int) ≤ 4294967296 by decide)] at *
    first
      | exact chk_no (by unfold okP; omega)
      | exact chk_yes (by unfold okP; omega)
theorem fs_rcheck (f : Nat → Int) : Fs Tryz.prog ro26 66 [push f] (hp [] []) fun r _ => r = .v (.int .i64 (chk26 f)) := by
  refine Fs.of_call knownA (t_rcheck f _) ?_
  repeat' (refine holds_bif (fun h => ?_) (fun h => ?_))
  all_goals
    refine ⟨trivial, ?_⟩
    simp only [decide_eq_true_eq, decide_eq_false_iff_not] at *
    first
      | exact chk_no (by unfold okP; omega)
      | exact chk_yes (by unfold okP; omega)
/-- Plain numbers. -/
def ints? : List Value → Option (List Int)
  | [] => some []
  | .int .i64 n :: l => match ints? l with
    | some r => some (n :: r)
    | none => none
  | _ => none
theorem ints_map : ∀ {l : List Value} {r : List Int}, ints? l = some r → l = r.map (Value.int .i64)
  | [], r, h => by cases h; rfl
  | x :: l, r, h => by
    unfold ints? at h
    split at h
    · rename_i heq; cases heq
    · rename_i heq
      cases heq
      split at h
      · rename_i q hq
        cases h
        rw [ints_map hq]; rfl
      · cases h
    · cases h
def nine (l : List Int) : Nat → Int := fun n => l.getD n 0
def checkP : List Value → Option (Value × Bool) := fun us => match us with
  | [.agg cs] => match ints? cs.toList with
    | some l => match decide (l.length = 9) with
      | true => some (.int .i64 (chk26 (nine l)), true)
      | false => none
    | none => none
  | _ => none
theorem push_of {cs : Array Value} {l : List Int} (h : ints? cs.toList = some l) (h9 : l.length = 9) : AV.v (.agg cs) = push (nine l) := by
  have := ints_map h
  obtain ⟨c⟩ := cs
  have : c = l.map (Value.int .i64) := this
  subst this
  match l, h9 with
  | [a, b, c, d, e, f, g, h, i], _ => rfl
theorem check_of {g : FuncId} (hg : ∀ f : Nat → Int, Fs Tryz.prog ro26 g [push f] (hp [] []) fun r _ => r = .v (.int .i64 (chk26 f))) : ∀ us c, checkP us = some (c, true) → Fs Tryz.prog ro26 g (us.map .v) (hp [] []) fun r _ => r = .v c := by
  intro us c h
  unfold checkP at h
  split at h
  · split at h
    · rename_i l hl
      split at h
      · rename_i h9
        cases h
        have := push_of hl (of_decide_eq_true h9)
        rw [List.map_cons, List.map_nil, this]
        exact hg (nine l)
      · cases h
    · cases h
  · cases h
theorem check_ok : ∀ args H r H', pure? checkP args H = some (r, H') → HSound1 Tryz.prog ro26 57 args H r H' := pure_ok (check_of fs_check) (has_fn (by kernel_rfl))
theorem rcheck_ok : ∀ args H r H', pure? checkP args H = some (r, H') → HSound1 Tryz.prog ro26 66 args H r H' := pure_ok (check_of fs_rcheck) (has_fn (by kernel_rfl))
/-- The settings of seven numbers. -/
def ofsP : List AV → Option (AV × Bool) := fun ar => match ar with
  | [.lst 1 xs _] => match vals? xs with
    | some us => match ints? us with
      | some l => match decide (l.length = 7) with
        | true => some (.v (.agg us.toArray), true)
        | false => none
      | none => none
    | none => none
  | _ => none
theorem ofs_ok : ∀ args H r H', data? ofsP args H = some (r, H') → HSound1 Tryz.prog ro26 65 args H r H' := by
  refine data_ok (has_fn (by kernel_rfl)) fun args r h => ?_
  unfold ofsP at h
  split at h
  · rename_i xs tip
    split at h
    · rename_i us hu
      split at h
      · rename_i l hl
        split at h
        · rename_i h7
          cases h
          have h7 := of_decide_eq_true h7
          have e1 := vals_map hu
          have e2 := ints_map hl
          subst e2
          subst e1
          match l, h7 with
          | [a, b, c, d, e, f, g], _ => exact Fs.of_call knownA (t_ofs (nine [a, b, c, d, e, f, g]) tip _) ⟨trivial, rfl⟩
        · cases h
      · cases h
    · cases h
  · cases h
def numsP : List AV → Option (AV × Bool) := fun ar => match ar with
  | [.v (.string s), .lst 1 xs _] => match vals? xs with
    | some us => match ints? us with
      | some wl => match wl.isEmpty with
        | false => some (.lst 1 ((numsOf wl s).map gi) .no, enough wl s && decide (s.size ≤ maxLen) && decide (wl.length ≤ 1000))
        | true => none
      | none => none
    | none => none
  | _ => none
theorem nums_ok : ∀ args H r H', data? numsP args H = some (r, H') → HSound1 Tryz.prog ro26 59 args H r H' := by
  refine data_ok (has_fn (by kernel_rfl)) fun args r h => ?_
  unfold numsP at h
  split at h
  · rename_i s xs tip
    split at h
    · rename_i us hu
      split at h
      · rename_i wl hl
        split at h
        · rename_i hne
          simp only [Option.some.injEq, Prod.mk.injEq, Bool.and_eq_true, decide_eq_true_eq] at h
          obtain ⟨rfl, ⟨h1, h2⟩, h3⟩ := h
          have e1 := vals_map hu
          have e2 := ints_map hl
          subst e2
          subst e1
          have e3 : (wl.map (Value.int .i64)).map AV.v = wl.map gi := by rw [List.map_map]; rfl
          rw [e3]
          exact (fs_nums s wl tip h2 h3 (ne_nil hne) h1).ro _
        · cases h
      · cases h
    · cases h
  · cases h
noncomputable def prB : FuncId → Option (List AV → AH → Ans) := fun g => match g with
  | 57 => some (pure? checkP)
  | 66 => some (pure? checkP)
  | 65 => some (data? ofsP)
  | 59 => some (data? numsP)
  | g => prA g
theorem knownB : Known ro26 prB := by
  intro g p h
  unfold prB at h
  split at h
  · cases h; exact check_ok
  · cases h; exact rcheck_ok
  · cases h; exact ofs_ok
  · cases h; exact nums_ok
  · exact knownA _ p h
def muB : FuncId → Bool := fun g => g == 65 + 1000000
theorem flatB : Flats muB prB := by
  intro g h
  have h : g + 1000000 = 65 + 1000000 := eq_of_beq h
  have h := Nat.add_right_cancel h
  subst h
  exact ⟨_, rfl, data_flat _⟩
end Go.Proofs.YtlonpmcgejdkkaaGreatDoor.AE.P26
namespace Go.Proofs.YtlonpmcgejdkkaaGreatDoor.AE.P26
set_option maxRecDepth 100000
open Go.RowKit Oc Nm
theorem t_put (f : Nat → Int) (Φ : AV → Prop) : callK ro26 muB prB 10 143 [push f] (hp [] []) (fun r h => some (h.cd ∧ Φ r)) =
    (bif ((P26.chk26 (P26.nine [(f (0 : Nat)), (f (1 : Nat)), (f (2 : Nat)), (f (3 : Nat)), (f (4 : Nat)), (f (5 : Nat)), (f (6 : Nat)), (f (7 : Nat)), (f (8 : Nat))])) != (0 : Int)) then (some (True ∧ (Φ (AV.v (Value.tuple #[(Value.string (ByteArray.mk (Array.mk (@List.nil UInt8)))), (Value.int IntKind.i64 (P26.chk26 (P26.nine [(f (0 : Nat)), (f (1 : Nat)), (f (2 : Nat)), (f (3 : Nat)), (f (4 : Nat)), (f (5 : Nat)), (f (6 : Nat)), (f (7 : Nat)), (f (8 : Nat))])))]))))) else (some ((cdb (cdb (cdb (cdb (cdb (cdb (cdb (cdb True (decide ((ByteArray.size (putS (ByteArray.mk (Array.mk (@List.nil UInt8))) (f (0 : Nat)) (1 : Int))) ≤ (70368744177664 : Nat)))) (decide ((ByteArray.size (putS (putS (ByteArray.mk (Array.mk (@List.nil UInt8))) (f (0 : Nat)) (1 : Int)) (f (1 : Nat)) (4 : Int))) ≤ (70368744177664 : Nat)))) (decide ((ByteArray.size (putS (putS (putS (ByteArray.mk (Array.mk (@List.nil UInt8))) (f (0 : Nat)) (1 : Int)) (f (1 : Nat)) (4 : Int)) (f (2 : Nat)) (2 : Int))) ≤ (70368744177664 : Nat)))) (decide ((ByteArray.size (putS (putS (putS (putS (ByteArray.mk (Array.mk (@List.nil UInt8))) (f (0 : Nat)) (1 : Int)) (f (1 : Nat)) (4 : Int)) (f (2 : Nat)) (2 : Int)) (f (3 : Nat)) (2 : Int))) ≤ (70368744177664 : Nat)))) (decide ((ByteArray.size (putS (putS (putS (putS (putS (ByteArray.mk (Array.mk (@List.nil UInt8))) (f (0 : Nat)) (1 : Int)) (f (1 : Nat)) (4 : Int)) (f (2 : Nat)) (2 : Int)) (f (3 : Nat)) (2 : Int)) (f (4 : Nat)) (1 : Int))) ≤ (70368744177664 : Nat)))) (decide ((ByteArray.size (putS (putS (putS (putS (putS (putS (ByteArray.mk (Array.mk (@List.nil UInt8))) (f (0 : Nat)) (1 : Int)) (f (1 : Nat)) (4 : Int)) (f (2 : Nat)) (2 : Int)) (f (3 : Nat)) (2 : Int)) (f (4 : Nat)) (1 : Int)) (f (5 : Nat)) (1 : Int))) ≤ (70368744177664 : Nat)))) (decide ((ByteArray.size (putS (putS (putS (putS (putS (putS (putS (ByteArray.mk (Array.mk (@List.nil UInt8))) (f (0 : Nat)) (1 : Int)) (f (1 : Nat)) (4 : Int)) (f (2 : Nat)) (2 : Int)) (f (3 : Nat)) (2 : Int)) (f (4 : Nat)) (1 : Int)) (f (5 : Nat)) (1 : Int)) (f (6 : Nat)) (1 : Int))) ≤ (70368744177664 : Nat)))) (decide ((ByteArray.size (putS (putS (putS (putS (putS (putS (putS (putS (ByteArray.mk (Array.mk (@List.nil UInt8))) (f (0 : Nat)) (1 : Int)) (f (1 : Nat)) (4 : Int)) (f (2 : Nat)) (2 : Int)) (f (3 : Nat)) (2 : Int)) (f (4 : Nat)) (1 : Int)) (f (5 : Nat)) (1 : Int)) (f (6 : Nat)) (1 : Int)) (f (7 : Nat)) (1 : Int))) ≤ (70368744177664 : Nat)))) ∧ (Φ (AV.v (Value.tuple #[(Value.string (putS (putS (putS (putS (putS (putS (putS (putS (putS (ByteArray.mk (Array.mk (@List.nil UInt8))) (f (0 : Nat)) (1 : Int)) (f (1 : Nat)) (4 : Int)) (f (2 : Nat)) (2 : Int)) (f (3 : Nat)) (2 : Int)) (f (4 : Nat)) (1 : Int)) (f (5 : Nat)) (1 : Int)) (f (6 : Nat)) (1 : Int)) (f (7 : Nat)) (1 : Int)) (f (8 : Nat)) (1 : Int))), (Value.int IntKind.i64 (0 : Int))])))))) := by kernel_rfl
theorem t_rput (f : Nat → Int) (Φ : AV → Prop) : callK ro26 muB prB 10 43 [push f] (hp [] []) (fun r h => some (h.cd ∧ Φ r)) =
    (bif ((P26.chk26 (P26.nine [(f (0 : Nat)), (f (1 : Nat)), (f (2 : Nat)), (f (3 : Nat)), (f (4 : Nat)), (f (5 : Nat)), (f (6 : Nat)), (f (7 : Nat)), (f (8 : Nat))])) != (0 : Int)) then (some (True ∧ (Φ (AV.v (Value.tuple #[(Value.string (ByteArray.mk (Array.mk (@List.nil UInt8)))), (Value.int IntKind.i64 (1 : Int))]))))) else (some ((cdb (cdb (cdb (cdb (cdb (cdb (cdb (cdb (cdb (cdb (cdb (cdb (cdb (cdb (cdb (cdb (cdb (cdb True (decide ((f (0 : Nat)) ≤ (9223372036854775807 : Int)))) (decide (((0 : Nat) + (ByteArray.size (numStr (f (0 : Nat)) (1 : Int)))) ≤ (9223372036854775807 : Nat)))) (decide ((f (1 : Nat)) ≤ (9223372036854775807 : Int)))) (decide (((ByteArray.size ((ByteArray.mk (Array.mk (@List.nil UInt8))) ++ (numStr (f (0 : Nat)) (1 : Int)))) + (ByteArray.size (numStr (f (1 : Nat)) (4 : Int)))) ≤ (9223372036854775807 : Nat)))) (decide ((f (2 : Nat)) ≤ (9223372036854775807 : Int)))) (decide (((ByteArray.size (((ByteArray.mk (Array.mk (@List.nil UInt8))) ++ (numStr (f (0 : Nat)) (1 : Int))) ++ (numStr (f (1 : Nat)) (4 : Int)))) + (ByteArray.size (numStr (f (2 : Nat)) (2 : Int)))) ≤ (9223372036854775807 : Nat)))) (decide ((f (3 : Nat)) ≤ (9223372036854775807 : Int)))) (decide (((ByteArray.size ((((ByteArray.mk (Array.mk (@List.nil UInt8))) ++ (numStr (f (0 : Nat)) (1 : Int))) ++ (numStr (f (1 : Nat)) (4 : Int))) ++ (numStr (f (2 : Nat)) (2 : Int)))) + (ByteArray.size (numStr (f (3 : Nat)) (2 : Int)))) ≤ (9223372036854775807 : Nat)))) (decide ((f (4 : Nat)) ≤ (9223372036854775807 : Int)))) (decide (((ByteArray.size (((((ByteArray.mk (Array.mk (@List.nil UInt8))) ++ (numStr (f (0 : Nat)) (1 : Int))) ++ (numStr (f (1 : Nat)) (4 : Int))) ++ (numStr (f (2 : Nat)) (2 : Int))) ++ (numStr (f (3 : Nat)) (2 : Int)))) + (ByteArray.size (numStr (f (4 : Nat)) (1 : Int)))) ≤ (9223372036854775807 : Nat)))) (decide ((f (5 : Nat)) ≤ (9223372036854775807 : Int)))) (decide (((ByteArray.size ((((((ByteArray.mk (Array.mk (@List.nil UInt8))) ++ (numStr (f (0 : Nat)) (1 : Int))) ++ (numStr (f (1 : Nat)) (4 : Int))) ++ (numStr (f (2 : Nat)) (2 : Int))) ++ (numStr (f (3 : Nat)) (2 : Int))) ++ (numStr (f (4 : Nat)) (1 : Int)))) + (ByteArray.size (numStr (f (5 : Nat)) (1 : Int)))) ≤ (9223372036854775807 : Nat)))) (decide ((f (6 : Nat)) ≤ (9223372036854775807 : Int)))) (decide (((ByteArray.size (((((((ByteArray.mk (Array.mk (@List.nil UInt8))) ++ (numStr (f (0 : Nat)) (1 : Int))) ++ (numStr (f (1 : Nat)) (4 : Int))) ++ (numStr (f (2 : Nat)) (2 : Int))) ++ (numStr (f (3 : Nat)) (2 : Int))) ++ (numStr (f (4 : Nat)) (1 : Int))) ++ (numStr (f (5 : Nat)) (1 : Int)))) + (ByteArray.size (numStr (f (6 : Nat)) (1 : Int)))) ≤ (9223372036854775807 : Nat)))) (decide ((f (7 : Nat)) ≤ (9223372036854775807 : Int)))) (decide (((ByteArray.size ((((((((ByteArray.mk (Array.mk (@List.nil UInt8))) ++ (numStr (f (0 : Nat)) (1 : Int))) ++ (numStr (f (1 : Nat)) (4 : Int))) ++ (numStr (f (2 : Nat)) (2 : Int))) ++ (numStr (f (3 : Nat)) (2 : Int))) ++ (numStr (f (4 : Nat)) (1 : Int))) ++ (numStr (f (5 : Nat)) (1 : Int))) ++ (numStr (f (6 : Nat)) (1 : Int)))) + (ByteArray.size (numStr (f (7 : Nat)) (1 : Int)))) ≤ (9223372036854775807 : Nat)))) (decide ((f (8 : Nat)) ≤ (9223372036854775807 : Int)))) (decide (((ByteArray.size (((((((((ByteArray.mk (Array.mk (@List.nil UInt8))) ++ (numStr (f (0 : Nat)) (1 : Int))) ++ (numStr (f (1 : Nat)) (4 : Int))) ++ (numStr (f (2 : Nat)) (2 : Int))) ++ (numStr (f (3 : Nat)) (2 : Int))) ++ (numStr (f (4 : Nat)) (1 : Int))) ++ (numStr (f (5 : Nat)) (1 : Int))) ++ (numStr (f (6 : Nat)) (1 : Int))) ++ (numStr (f (7 : Nat)) (1 : Int)))) + (ByteArray.size (numStr (f (8 : Nat)) (1 : Int)))) ≤ (9223372036854775807 : Nat)))) ∧ (Φ (AV.v (Value.tuple #[(Value.string ((((((((((ByteArray.mk (Array.mk (@List.nil UInt8))) ++ (numStr (f (0 : Nat)) (1 : Int))) ++ (numStr (f (1 : Nat)) (4 : Int))) ++ (numStr (f (2 : Nat)) (2 : Int))) ++ (numStr (f (3 : Nat)) (2 : Int))) ++ (numStr (f (4 : Nat)) (1 : Int))) ++ (numStr (f (5 : Nat)) (1 : Int))) ++ (numStr (f (6 : Nat)) (1 : Int))) ++ (numStr (f (7 : Nat)) (1 : Int))) ++ (numStr (f (8 : Nat)) (1 : Int)))), (Value.int IntKind.i64 (0 : Int))])))))) := by kernel_rfl
theorem t_get (s : ByteArray) (Φ : AV → Prop) : callK ro26 muB prB 10 34 [.v (.string s)] (hp [] []) (fun r h => some (h.cd ∧ Φ r)) =
    (bif ((Oc.takeE s (1 : Int)) != (0 : Int)) then (some ((cdb True (decide ((ByteArray.size s) ≤ (9223372036854775807 : Nat)))) ∧ (Φ (AV.v (Value.tuple #[(Value.agg #[(Value.int IntKind.i64 (0 : Int)), (Value.int IntKind.i64 (0 : Int)), (Value.int IntKind.i64 (0 : Int)), (Value.int IntKind.i64 (0 : Int)), (Value.int IntKind.i64 (0 : Int)), (Value.int IntKind.i64 (0 : Int)), (Value.int IntKind.i64 (0 : Int)), (Value.int IntKind.i64 (0 : Int)), (Value.int IntKind.i64 (0 : Int))]), (Value.int IntKind.i64 (Oc.takeE s (1 : Int)))]))))) else (bif ((Oc.takeE (Oc.takeR s (1 : Int)) (4 : Int)) != (0 : Int)) then (some ((cdb (cdb True (decide ((ByteArray.size s) ≤ (9223372036854775807 : Nat)))) (decide ((ByteArray.size (Oc.takeR s (1 : Int))) ≤ (9223372036854775807 : Nat)))) ∧ (Φ (AV.v (Value.tuple #[(Value.agg #[(Value.int IntKind.i64 (0 : Int)), (Value.int IntKind.i64 (0 : Int)), (Value.int IntKind.i64 (0 : Int)), (Value.int IntKind.i64 (0 : Int)), (Value.int IntKind.i64 (0 : Int)), (Value.int IntKind.i64 (0 : Int)), (Value.int IntKind.i64 (0 : Int)), (Value.int IntKind.i64 (0 : Int)), (Value.int IntKind.i64 (0 : Int))]), (Value.int IntKind.i64 (Oc.takeE (Oc.takeR s (1 : Int)) (4 : Int)))]))))) else (bif ((Oc.takeE (Oc.takeR (Oc.takeR s (1 : Int)) (4 : Int)) (2 : Int)) != (0 : Int)) then (some ((cdb (cdb (cdb True (decide ((ByteArray.size s) ≤ (9223372036854775807 : Nat)))) (decide ((ByteArray.size (Oc.takeR s (1 : Int))) ≤ (9223372036854775807 : Nat)))) (decide ((ByteArray.size (Oc.takeR (Oc.takeR s (1 : Int)) (4 : Int))) ≤ (9223372036854775807 : Nat)))) ∧ (Φ (AV.v (Value.tuple #[(Value.agg #[(Value.int IntKind.i64 (0 : Int)), (Value.int IntKind.i64 (0 : Int)), (Value.int IntKind.i64 (0 : Int)), (Value.int IntKind.i64 (0 : Int)), (Value.int IntKind.i64 (0 : Int)), (Value.int IntKind.i64 (0 : Int)), (Value.int IntKind.i64 (0 : Int)), (Value.int IntKind.i64 (0 : Int)), (Value.int IntKind.i64 (0 : Int))]), (Value.int IntKind.i64 (Oc.takeE (Oc.takeR (Oc.takeR s (1 : Int)) (4 : Int)) (2 : Int)))]))))) else (bif ((Oc.takeE (Oc.takeR (Oc.takeR (Oc.takeR s (1 : Int)) (4 : Int)) (2 : Int)) (2 : Int)) != (0 : Int)) then (some ((cdb (cdb (cdb (cdb True (decide ((ByteArray.size s) ≤ (9223372036854775807 : Nat)))) (decide ((ByteArray.size (Oc.takeR s (1 : Int))) ≤ (9223372036854775807 : Nat)))) (decide ((ByteArray.size (Oc.takeR (Oc.takeR s (1 : Int)) (4 : Int))) ≤ (9223372036854775807 : Nat)))) (decide ((ByteArray.size (Oc.takeR (Oc.takeR (Oc.takeR s (1 : Int)) (4 : Int)) (2 : Int))) ≤ (9223372036854775807 : Nat)))) ∧ (Φ (AV.v (Value.tuple #[(Value.agg #[(Value.int IntKind.i64 (0 : Int)), (Value.int IntKind.i64 (0 : Int)), (Value.int IntKind.i64 (0 : Int)), (Value.int IntKind.i64 (0 : Int)), (Value.int IntKind.i64 (0 : Int)), (Value.int IntKind.i64 (0 : Int)), (Value.int IntKind.i64 (0 : Int)), (Value.int IntKind.i64 (0 : Int)), (Value.int IntKind.i64 (0 : Int))]), (Value.int IntKind.i64 (Oc.takeE (Oc.takeR (Oc.takeR (Oc.takeR s (1 : Int)) (4 : Int)) (2 : Int)) (2 : Int)))]))))) else (bif ((Oc.takeE (Oc.takeR (Oc.takeR (Oc.takeR (Oc.takeR s (1 : Int)) (4 : Int)) (2 : Int)) (2 : Int)) (1 : Int)) != (0 : Int)) then (some ((cdb (cdb (cdb (cdb (cdb True (decide ((ByteArray.size s) ≤ (9223372036854775807 : Nat)))) (decide ((ByteArray.size (Oc.takeR s (1 : Int))) ≤ (9223372036854775807 : Nat)))) (decide ((ByteArray.size (Oc.takeR (Oc.takeR s (1 : Int)) (4 : Int))) ≤ (9223372036854775807 : Nat)))) (decide ((ByteArray.size (Oc.takeR (Oc.takeR (Oc.takeR s (1 : Int)) (4 : Int)) (2 : Int))) ≤ (9223372036854775807 : Nat)))) (decide ((ByteArray.size (Oc.takeR (Oc.takeR (Oc.takeR (Oc.takeR s (1 : Int)) (4 : Int)) (2 : Int)) (2 : Int))) ≤ (9223372036854775807 : Nat)))) ∧ (Φ (AV.v (Value.tuple #[(Value.agg #[(Value.int IntKind.i64 (0 : Int)), (Value.int IntKind.i64 (0 : Int)), (Value.int IntKind.i64 (0 : Int)), (Value.int IntKind.i64 (0 : Int)), (Value.int IntKind.i64 (0 : Int)), (Value.int IntKind.i64 (0 : Int)), (Value.int IntKind.i64 (0 : Int)), (Value.int IntKind.i64 (0 : Int)), (Value.int IntKind.i64 (0 : Int))]), (Value.int IntKind.i64 (Oc.takeE (Oc.takeR (Oc.takeR (Oc.takeR (Oc.takeR s (1 : Int)) (4 : Int)) (2 : Int)) (2 : Int)) (1 : Int)))]))))) else (bif ((Oc.takeE (Oc.takeR (Oc.takeR (Oc.takeR (Oc.takeR (Oc.takeR s (1 : Int)) (4 : Int)) (2 : Int)) (2 : Int)) (1 : Int)) (1 : Int)) != (0 : Int)) then (some ((cdb (cdb (cdb (cdb (cdb (cdb True (decide ((ByteArray.size s) ≤ (9223372036854775807 : Nat)))) (decide ((ByteArray.size (Oc.takeR s (1 : Int))) ≤ (9223372036854775807 : Nat)))) (decide ((ByteArray.size (Oc.takeR (Oc.takeR s (1 : Int)) (4 : Int))) ≤ (9223372036854775807 : Nat)))) (decide ((ByteArray.size (Oc.takeR (Oc.takeR (Oc.takeR s (1 : Int)) (4 : Int)) (2 : Int))) ≤ (9223372036854775807 : Nat)))) (decide ((ByteArray.size (Oc.takeR (Oc.takeR (Oc.takeR (Oc.takeR s (1 : Int)) (4 : Int)) (2 : Int)) (2 : Int))) ≤ (9223372036854775807 : Nat)))) (decide ((ByteArray.size (Oc.takeR (Oc.takeR (Oc.takeR (Oc.takeR (Oc.takeR s (1 : Int)) (4 : Int)) (2 : Int)) (2 : Int)) (1 : Int))) ≤ (9223372036854775807 : Nat)))) ∧ (Φ (AV.v (Value.tuple #[(Value.agg #[(Value.int IntKind.i64 (0 : Int)), (Value.int IntKind.i64 (0 : Int)), (Value.int IntKind.i64 (0 : Int)), (Value.int IntKind.i64 (0 : Int)), (Value.int IntKind.i64 (0 : Int)), (Value.int IntKind.i64 (0 : Int)), (Value.int IntKind.i64 (0 : Int)), (Value.int IntKind.i64 (0 : Int)), (Value.int IntKind.i64 (0 : Int))]), (Value.int IntKind.i64 (Oc.takeE (Oc.takeR (Oc.takeR (Oc.takeR (Oc.takeR (Oc.takeR s (1 : Int)) (4 : Int)) (2 : Int)) (2 : Int)) (1 : Int)) (1 : Int)))]))))) else (bif ((Oc.takeE (Oc.takeR (Oc.takeR (Oc.takeR (Oc.takeR (Oc.takeR (Oc.takeR s (1 : Int)) (4 : Int)) (2 : Int)) (2 : Int)) (1 : Int)) (1 : Int)) (1 : Int)) != (0 : Int)) then (some ((cdb (cdb (cdb (cdb (cdb (cdb (cdb True (decide ((ByteArray.size s) ≤ (9223372036854775807 : Nat)))) (decide ((ByteArray.size (Oc.takeR s (1 : Int))) ≤ (9223372036854775807 : Nat)))) (decide ((ByteArray.size (Oc.takeR (Oc.takeR s (1 : Int)) (4 : Int))) ≤ (9223372036854775807 : Nat)))) (decide ((ByteArray.size (Oc.takeR (Oc.takeR (Oc.takeR s (1 : Int)) (4 : Int)) (2 : Int))) ≤ (9223372036854775807 : Nat)))) (decide ((ByteArray.size (Oc.takeR (Oc.takeR (Oc.takeR (Oc.takeR s (1 : Int)) (4 : Int)) (2 : Int)) (2 : Int))) ≤ (9223372036854775807 : Nat)))) (decide ((ByteArray.size (Oc.takeR (Oc.takeR (Oc.takeR (Oc.takeR (Oc.takeR s (1 : Int)) (4 : Int)) (2 : Int)) (2 : Int)) (1 : Int))) ≤ (9223372036854775807 : Nat)))) (decide ((ByteArray.size (Oc.takeR (Oc.takeR (Oc.takeR (Oc.takeR (Oc.takeR (Oc.takeR s (1 : Int)) (4 : Int)) (2 : Int)) (2 : Int)) (1 : Int)) (1 : Int))) ≤ (9223372036854775807 : Nat)))) ∧ (Φ (AV.v (Value.tuple #[(Value.agg #[(Value.int IntKind.i64 (0 : Int)), (Value.int IntKind.i64 (0 : Int)), (Value.int IntKind.i64 (0 : Int)), (Value.int IntKind.i64 (0 : Int)), (Value.int IntKind.i64 (0 : Int)), (Value.int IntKind.i64 (0 : Int)), (Value.int IntKind.i64 (0 : Int)), (Value.int IntKind.i64 (0 : Int)), (Value.int IntKind.i64 (0 : Int))]), (Value.int IntKind.i64 (Oc.takeE (Oc.takeR (Oc.takeR (Oc.takeR (Oc.takeR (Oc.takeR (Oc.takeR s (1 : Int)) (4 : Int)) (2 : Int)) (2 : Int)) (1 : Int)) (1 : Int)) (1 : Int)))]))))) else (bif ((Oc.takeE (Oc.takeR (Oc.takeR (Oc.takeR (Oc.takeR (Oc.takeR (Oc.takeR (Oc.takeR s (1 : Int)) (4 : Int)) (2 : Int)) (2 : Int)) (1 : Int)) (1 : Int)) (1 : Int)) (1 : Int)) != (0 : Int)) then (some ((cdb (cdb (cdb (cdb (cdb (cdb (cdb (cdb True (decide ((ByteArray.size s) ≤ (9223372036854775807 : Nat)))) (decide ((ByteArray.size (Oc.takeR s (1 : Int))) ≤ (9223372036854775807 : Nat)))) (decide ((ByteArray.size (Oc.takeR (Oc.takeR s (1 : Int)) (4 : Int))) ≤ (9223372036854775807 : Nat)))) (decide ((ByteArray.size (Oc.takeR (Oc.takeR (Oc.takeR s (1 : Int)) (4 : Int)) (2 : Int))) ≤ (9223372036854775807 : Nat)))) (decide ((ByteArray.size (Oc.takeR (Oc.takeR (Oc.takeR (Oc.takeR s (1 : Int)) (4 : Int)) (2 : Int)) (2 : Int))) ≤ (9223372036854775807 : Nat)))) (decide ((ByteArray.size (Oc.takeR (Oc.takeR (Oc.takeR (Oc.takeR (Oc.takeR s (1 : Int)) (4 : Int)) (2 : Int)) (2 : Int)) (1 : Int))) ≤ (9223372036854775807 : Nat)))) (decide ((ByteArray.size (Oc.takeR (Oc.takeR (Oc.takeR (Oc.takeR (Oc.takeR (Oc.takeR s (1 : Int)) (4 : Int)) (2 : Int)) (2 : Int)) (1 : Int)) (1 : Int))) ≤ (9223372036854775807 : Nat)))) (decide ((ByteArray.size (Oc.takeR (Oc.takeR (Oc.takeR (Oc.takeR (Oc.takeR (Oc.takeR (Oc.takeR s (1 : Int)) (4 : Int)) (2 : Int)) (2 : Int)) (1 : Int)) (1 : Int)) (1 : Int))) ≤ (9223372036854775807 : Nat)))) ∧ (Φ (AV.v (Value.tuple #[(Value.agg #[(Value.int IntKind.i64 (0 : Int)), (Value.int IntKind.i64 (0 : Int)), (Value.int IntKind.i64 (0 : Int)), (Value.int IntKind.i64 (0 : Int)), (Value.int IntKind.i64 (0 : Int)), (Value.int IntKind.i64 (0 : Int)), (Value.int IntKind.i64 (0 : Int)), (Value.int IntKind.i64 (0 : Int)), (Value.int IntKind.i64 (0 : Int))]), (Value.int IntKind.i64 (Oc.takeE (Oc.takeR (Oc.takeR (Oc.takeR (Oc.takeR (Oc.takeR (Oc.takeR (Oc.takeR s (1 : Int)) (4 : Int)) (2 : Int)) (2 : Int)) (1 : Int)) (1 : Int)) (1 : Int)) (1 : Int)))]))))) else (bif ((Oc.takeE (Oc.takeR (Oc.takeR (Oc.takeR (Oc.takeR (Oc.takeR (Oc.takeR (Oc.takeR (Oc.takeR s (1 : Int)) (4 : Int)) (2 : Int)) (2 : Int)) (1 : Int)) (1 : Int)) (1 : Int)) (1 : Int)) (1 : Int)) != (0 : Int)) then (some ((cdb (cdb (cdb (cdb (cdb (cdb (cdb (cdb (cdb True (decide ((ByteArray.size s) ≤ (9223372036854775807 : Nat)))) (decide ((ByteArray.size (Oc.takeR s (1 : Int))) ≤ (9223372036854775807 : Nat)))) (decide ((ByteArray.size (Oc.takeR (Oc.takeR s (1 : Int)) (4 : Int))) ≤ (9223372036854775807 : Nat)))) (decide ((ByteArray.size (Oc.takeR (Oc.takeR (Oc.takeR s (1 : Int)) (4 : Int)) (2 : Int))) ≤ (9223372036854775807 : Nat)))) (decide ((ByteArray.size (Oc.takeR (Oc.takeR (Oc.takeR (Oc.takeR s (1 : Int)) (4 : Int)) (2 : Int)) (2 : Int))) ≤ (9223372036854775807 : Nat)))) (decide ((ByteArray.size (Oc.takeR (Oc.takeR (Oc.takeR (Oc.takeR (Oc.takeR s (1 : Int)) (4 : Int)) (2 : Int)) (2 : Int)) (1 : Int))) ≤ (9223372036854775807 : Nat)))) (decide ((ByteArray.size (Oc.takeR (Oc.takeR (Oc.takeR (Oc.takeR (Oc.takeR (Oc.takeR s (1 : Int)) (4 : Int)) (2 : Int)) (2 : Int)) (1 : Int)) (1 : Int))) ≤ (9223372036854775807 : Nat)))) (decide ((ByteArray.size (Oc.takeR (Oc.takeR (Oc.takeR (Oc.takeR (Oc.takeR (Oc.takeR (Oc.takeR s (1 : Int)) (4 : Int)) (2 : Int)) (2 : Int)) (1 : Int)) (1 : Int)) (1 : Int))) ≤ (9223372036854775807 : Nat)))) (decide ((ByteArray.size (Oc.takeR (Oc.takeR (Oc.takeR (Oc.takeR (Oc.takeR (Oc.takeR (Oc.takeR (Oc.takeR s (1 : Int)) (4 : Int)) (2 : Int)) (2 : Int)) (1 : Int)) (1 : Int)) (1 : Int)) (1 : Int))) ≤ (9223372036854775807 : Nat)))) ∧ (Φ (AV.v (Value.tuple #[(Value.agg #[(Value.int IntKind.i64 (0 : Int)), (Value.int IntKind.i64 (0 : Int)), (Value.int IntKind.i64 (0 : Int)), (Value.int IntKind.i64 (0 : Int)), (Value.int IntKind.i64 (0 : Int)), (Value.int IntKind.i64 (0 : Int)), (Value.int IntKind.i64 (0 : Int)), (Value.int IntKind.i64 (0 : Int)), (Value.int IntKind.i64 (0 : Int))]), (Value.int IntKind.i64 (Oc.takeE (Oc.takeR (Oc.takeR (Oc.takeR (Oc.takeR (Oc.takeR (Oc.takeR (Oc.takeR (Oc.takeR s (1 : Int)) (4 : Int)) (2 : Int)) (2 : Int)) (1 : Int)) (1 : Int)) (1 : Int)) (1 : Int)) (1 : Int)))]))))) else (bif (decide ((0 : Int) < ((ByteArray.size (Oc.takeR (Oc.takeR (Oc.takeR (Oc.takeR (Oc.takeR (Oc.takeR (Oc.takeR (Oc.takeR (Oc.takeR s (1 : Int)) (4 : Int)) (2 : Int)) (2 : Int)) (1 : Int)) (1 : Int)) (1 : Int)) (1 : Int)) (1 : Int))) : Int))) then (some ((cdb (cdb (cdb (cdb (cdb (cdb (cdb (cdb (cdb True (decide ((ByteArray.size s) ≤ (9223372036854775807 : Nat)))) (decide ((ByteArray.size (Oc.takeR s (1 : Int))) ≤ (9223372036854775807 : Nat)))) (decide ((ByteArray.size (Oc.takeR (Oc.takeR s (1 : Int)) (4 : Int))) ≤ (9223372036854775807 : Nat)))) (decide ((ByteArray.size (Oc.takeR (Oc.takeR (Oc.takeR s (1 : Int)) (4 : Int)) (2 : Int))) ≤ (9223372036854775807 : Nat)))) (decide ((ByteArray.size (Oc.takeR (Oc.takeR (Oc.takeR (Oc.takeR s (1 : Int)) (4 : Int)) (2 : Int)) (2 : Int))) ≤ (9223372036854775807 : Nat)))) (decide ((ByteArray.size (Oc.takeR (Oc.takeR (Oc.takeR (Oc.takeR (Oc.takeR s (1 : Int)) (4 : Int)) (2 : Int)) (2 : Int)) (1 : Int))) ≤ (9223372036854775807 : Nat)))) (decide ((ByteArray.size (Oc.takeR (Oc.takeR (Oc.takeR (Oc.takeR (Oc.takeR (Oc.takeR s (1 : Int)) (4 : Int)) (2 : Int)) (2 : Int)) (1 : Int)) (1 : Int))) ≤ (9223372036854775807 : Nat)))) (decide ((ByteArray.size (Oc.takeR (Oc.takeR (Oc.takeR (Oc.takeR (Oc.takeR (Oc.takeR (Oc.takeR s (1 : Int)) (4 : Int)) (2 : Int)) (2 : Int)) (1 : Int)) (1 : Int)) (1 : Int))) ≤ (9223372036854775807 : Nat)))) (decide ((ByteArray.size (Oc.takeR (Oc.takeR (Oc.takeR (Oc.takeR (Oc.takeR (Oc.takeR (Oc.takeR (Oc.takeR s (1 : Int)) (4 : Int)) (2 : Int)) (2 : Int)) (1 : Int)) (1 : Int)) (1 : Int)) (1 : Int))) ≤ (9223372036854775807 : Nat)))) ∧ (Φ (AV.v (Value.tuple #[(Value.agg #[(Value.int IntKind.i64 (0 : Int)), (Value.int IntKind.i64 (0 : Int)), (Value.int IntKind.i64 (0 : Int)), (Value.int IntKind.i64 (0 : Int)), (Value.int IntKind.i64 (0 : Int)), (Value.int IntKind.i64 (0 : Int)), (Value.int IntKind.i64 (0 : Int)), (Value.int IntKind.i64 (0 : Int)), (Value.int IntKind.i64 (0 : Int))]), (Value.int IntKind.i64 (2 : Int))]))))) else (bif ((P26.chk26 (P26.nine [(exInt (AV.v (Value.int IntKind.i64 (Oc.takeN s (1 : Int))))), (exInt (AV.v (Value.int IntKind.i64 (Oc.takeN (Oc.takeR s (1 : Int)) (4 : Int))))), (exInt (AV.v (Value.int IntKind.i64 (Oc.takeN (Oc.takeR (Oc.takeR s (1 : Int)) (4 : Int)) (2 : Int))))), (exInt (AV.v (Value.int IntKind.i64 (Oc.takeN (Oc.takeR (Oc.takeR (Oc.takeR s (1 : Int)) (4 : Int)) (2 : Int)) (2 : Int))))), (exInt (AV.v (Value.int IntKind.i64 (Oc.takeN (Oc.takeR (Oc.takeR (Oc.takeR (Oc.takeR s (1 : Int)) (4 : Int)) (2 : Int)) (2 : Int)) (1 : Int))))), (exInt (AV.v (Value.int IntKind.i64 (Oc.takeN (Oc.takeR (Oc.takeR (Oc.takeR (Oc.takeR (Oc.takeR s (1 : Int)) (4 : Int)) (2 : Int)) (2 : Int)) (1 : Int)) (1 : Int))))), (exInt (AV.v (Value.int IntKind.i64 (Oc.takeN (Oc.takeR (Oc.takeR (Oc.takeR (Oc.takeR (Oc.takeR (Oc.takeR s (1 : Int)) (4 : Int)) (2 : Int)) (2 : Int)) (1 : Int)) (1 : Int)) (1 : Int))))), (exInt (AV.v (Value.int IntKind.i64 (Oc.takeN (Oc.takeR (Oc.takeR (Oc.takeR (Oc.takeR (Oc.takeR (Oc.takeR (Oc.takeR s (1 : Int)) (4 : Int)) (2 : Int)) (2 : Int)) (1 : Int)) (1 : Int)) (1 : Int)) (1 : Int))))), (exInt (AV.v (Value.int IntKind.i64 (Oc.takeN (Oc.takeR (Oc.takeR (Oc.takeR (Oc.takeR (Oc.takeR (Oc.takeR (Oc.takeR (Oc.takeR s (1 : Int)) (4 : Int)) (2 : Int)) (2 : Int)) (1 : Int)) (1 : Int)) (1 : Int)) (1 : Int)) (1 : Int)))))])) != (0 : Int)) then (some ((cdb (cdb (cdb (cdb (cdb (cdb (cdb (cdb (cdb True (decide ((ByteArray.size s) ≤ (9223372036854775807 : Nat)))) (decide ((ByteArray.size (Oc.takeR s (1 : Int))) ≤ (9223372036854775807 : Nat)))) (decide ((ByteArray.size (Oc.takeR (Oc.takeR s (1 : Int)) (4 : Int))) ≤ (9223372036854775807 : Nat)))) (decide ((ByteArray.size (Oc.takeR (Oc.takeR (Oc.takeR s (1 : Int)) (4 : Int)) (2 : Int))) ≤ (9223372036854775807 : Nat)))) (decide ((ByteArray.size (Oc.takeR (Oc.takeR (Oc.takeR (Oc.takeR s (1 : Int)) (4 : Int)) (2 : Int)) (2 : Int))) ≤ (9223372036854775807 : Nat)))) (decide ((ByteArray.size (Oc.takeR (Oc.takeR (Oc.takeR (Oc.takeR (Oc.takeR s (1 : Int)) (4 : Int)) (2 : Int)) (2 : Int)) (1 : Int))) ≤ (9223372036854775807 : Nat)))) (decide ((ByteArray.size (Oc.takeR (Oc.takeR (Oc.takeR (Oc.takeR (Oc.takeR (Oc.takeR s (1 : Int)) (4 : Int)) (2 : Int)) (2 : Int)) (1 : Int)) (1 : Int))) ≤ (9223372036854775807 : Nat)))) (decide ((ByteArray.size (Oc.takeR (Oc.takeR (Oc.takeR (Oc.takeR (Oc.takeR (Oc.takeR (Oc.takeR s (1 : Int)) (4 : Int)) (2 : Int)) (2 : Int)) (1 : Int)) (1 : Int)) (1 : Int))) ≤ (9223372036854775807 : Nat)))) (decide ((ByteArray.size (Oc.takeR (Oc.takeR (Oc.takeR (Oc.takeR (Oc.takeR (Oc.takeR (Oc.takeR (Oc.takeR s (1 : Int)) (4 : Int)) (2 : Int)) (2 : Int)) (1 : Int)) (1 : Int)) (1 : Int)) (1 : Int))) ≤ (9223372036854775807 : Nat)))) ∧ (Φ (AV.v (Value.tuple #[(Value.agg #[(Value.int IntKind.i64 (0 : Int)), (Value.int IntKind.i64 (0 : Int)), (Value.int IntKind.i64 (0 : Int)), (Value.int IntKind.i64 (0 : Int)), (Value.int IntKind.i64 (0 : Int)), (Value.int IntKind.i64 (0 : Int)), (Value.int IntKind.i64 (0 : Int)), (Value.int IntKind.i64 (0 : Int)), (Value.int IntKind.i64 (0 : Int))]), (Value.int IntKind.i64 (2 : Int))]))))) else (some ((cdb (cdb (cdb (cdb (cdb (cdb (cdb (cdb (cdb True (decide ((ByteArray.size s) ≤ (9223372036854775807 : Nat)))) (decide ((ByteArray.size (Oc.takeR s (1 : Int))) ≤ (9223372036854775807 : Nat)))) (decide ((ByteArray.size (Oc.takeR (Oc.takeR s (1 : Int)) (4 : Int))) ≤ (9223372036854775807 : Nat)))) (decide ((ByteArray.size (Oc.takeR (Oc.takeR (Oc.takeR s (1 : Int)) (4 : Int)) (2 : Int))) ≤ (9223372036854775807 : Nat)))) (decide ((ByteArray.size (Oc.takeR (Oc.takeR (Oc.takeR (Oc.takeR s (1 : Int)) (4 : Int)) (2 : Int)) (2 : Int))) ≤ (9223372036854775807 : Nat)))) (decide ((ByteArray.size (Oc.takeR (Oc.takeR (Oc.takeR (Oc.takeR (Oc.takeR s (1 : Int)) (4 : Int)) (2 : Int)) (2 : Int)) (1 : Int))) ≤ (9223372036854775807 : Nat)))) (decide ((ByteArray.size (Oc.takeR (Oc.takeR (Oc.takeR (Oc.takeR (Oc.takeR (Oc.takeR s (1 : Int)) (4 : Int)) (2 : Int)) (2 : Int)) (1 : Int)) (1 : Int))) ≤ (9223372036854775807 : Nat)))) (decide ((ByteArray.size (Oc.takeR (Oc.takeR (Oc.takeR (Oc.takeR (Oc.takeR (Oc.takeR (Oc.takeR s (1 : Int)) (4 : Int)) (2 : Int)) (2 : Int)) (1 : Int)) (1 : Int)) (1 : Int))) ≤ (9223372036854775807 : Nat)))) (decide ((ByteArray.size (Oc.takeR (Oc.takeR (Oc.takeR (Oc.takeR (Oc.takeR (Oc.takeR (Oc.takeR (Oc.takeR s (1 : Int)) (4 : Int)) (2 : Int)) (2 : Int)) (1 : Int)) (1 : Int)) (1 : Int)) (1 : Int))) ≤ (9223372036854775807 : Nat)))) ∧ (Φ (AV.v (Value.tuple #[(Value.agg #[(Value.int IntKind.i64 (exInt (AV.v (Value.int IntKind.i64 (Oc.takeN s (1 : Int)))))), (Value.int IntKind.i64 (exInt (AV.v (Value.int IntKind.i64 (Oc.takeN (Oc.takeR s (1 : Int)) (4 : Int)))))), (Value.int IntKind.i64 (exInt (AV.v (Value.int IntKind.i64 (Oc.takeN (Oc.takeR (Oc.takeR s (1 : Int)) (4 : Int)) (2 : Int)))))), (Value.int IntKind.i64 (exInt (AV.v (Value.int IntKind.i64 (Oc.takeN (Oc.takeR (Oc.takeR (Oc.takeR s (1 : Int)) (4 : Int)) (2 : Int)) (2 : Int)))))), (Value.int IntKind.i64 (exInt (AV.v (Value.int IntKind.i64 (Oc.takeN (Oc.takeR (Oc.takeR (Oc.takeR (Oc.takeR s (1 : Int)) (4 : Int)) (2 : Int)) (2 : Int)) (1 : Int)))))), (Value.int IntKind.i64 (exInt (AV.v (Value.int IntKind.i64 (Oc.takeN (Oc.takeR (Oc.takeR (Oc.takeR (Oc.takeR (Oc.takeR s (1 : Int)) (4 : Int)) (2 : Int)) (2 : Int)) (1 : Int)) (1 : Int)))))), (Value.int IntKind.i64 (exInt (AV.v (Value.int IntKind.i64 (Oc.takeN (Oc.takeR (Oc.takeR (Oc.takeR (Oc.takeR (Oc.takeR (Oc.takeR s (1 : Int)) (4 : Int)) (2 : Int)) (2 : Int)) (1 : Int)) (1 : Int)) (1 : Int)))))), (Value.int IntKind.i64 (exInt (AV.v (Value.int IntKind.i64 (Oc.takeN (Oc.takeR (Oc.takeR (Oc.takeR (Oc.takeR (Oc.takeR (Oc.takeR (Oc.takeR s (1 : Int)) (4 : Int)) (2 : Int)) (2 : Int)) (1 : Int)) (1 : Int)) (1 : Int)) (1 : Int)))))), (Value.int IntKind.i64 (exInt (AV.v (Value.int IntKind.i64 (Oc.takeN (Oc.takeR (Oc.takeR (Oc.takeR (Oc.takeR (Oc.takeR (Oc.takeR (Oc.takeR (Oc.takeR s (1 : Int)) (4 : Int)) (2 : Int)) (2 : Int)) (1 : Int)) (1 : Int)) (1 : Int)) (1 : Int)) (1 : Int))))))]), (Value.int IntKind.i64 (0 : Int))])))))))))))))))) := by kernel_rfl
theorem t_rget (s : ByteArray) (Φ : AV → Prop) : callK ro26 muB prB 10 38 [.v (.string s)] (hp [] []) (fun r h => some (h.cd ∧ Φ r)) =
    (bif (decide (((ByteArray.size s) : Int) < (14 : Int))) then (some (True ∧ (Φ (AV.v (Value.tuple #[(Value.agg #[(Value.int IntKind.i64 (0 : Int)), (Value.int IntKind.i64 (0 : Int)), (Value.int IntKind.i64 (0 : Int)), (Value.int IntKind.i64 (0 : Int)), (Value.int IntKind.i64 (0 : Int)), (Value.int IntKind.i64 (0 : Int)), (Value.int IntKind.i64 (0 : Int)), (Value.int IntKind.i64 (0 : Int)), (Value.int IntKind.i64 (0 : Int))]), (Value.int IntKind.i64 (3 : Int))]))))) else (bif (decide ((14 : Int) < ((ByteArray.size s) : Int))) then (some ((cdb True ((((true && (decide ((1 : Int) ≤ ((ByteArray.size s) : Int)))) && ((true && (decide ((4 : Int) ≤ ((ByteArray.size (Oc.takeR s (1 : Int))) : Int)))) && ((true && (decide ((2 : Int) ≤ ((ByteArray.size (Oc.takeR (Oc.takeR s (1 : Int)) (4 : Int))) : Int)))) && ((true && (decide ((2 : Int) ≤ ((ByteArray.size (Oc.takeR (Oc.takeR (Oc.takeR s (1 : Int)) (4 : Int)) (2 : Int))) : Int)))) && ((true && (decide ((1 : Int) ≤ ((ByteArray.size (Oc.takeR (Oc.takeR (Oc.takeR (Oc.takeR s (1 : Int)) (4 : Int)) (2 : Int)) (2 : Int))) : Int)))) && ((true && (decide ((1 : Int) ≤ ((ByteArray.size (Oc.takeR (Oc.takeR (Oc.takeR (Oc.takeR (Oc.takeR s (1 : Int)) (4 : Int)) (2 : Int)) (2 : Int)) (1 : Int))) : Int)))) && ((true && (decide ((1 : Int) ≤ ((ByteArray.size (Oc.takeR (Oc.takeR (Oc.takeR (Oc.takeR (Oc.takeR (Oc.takeR s (1 : Int)) (4 : Int)) (2 : Int)) (2 : Int)) (1 : Int)) (1 : Int))) : Int)))) && ((true && (decide ((1 : Int) ≤ ((ByteArray.size (Oc.takeR (Oc.takeR (Oc.takeR (Oc.takeR (Oc.takeR (Oc.takeR (Oc.takeR s (1 : Int)) (4 : Int)) (2 : Int)) (2 : Int)) (1 : Int)) (1 : Int)) (1 : Int))) : Int)))) && ((true && (decide ((1 : Int) ≤ ((ByteArray.size (Oc.takeR (Oc.takeR (Oc.takeR (Oc.takeR (Oc.takeR (Oc.takeR (Oc.takeR (Oc.takeR s (1 : Int)) (4 : Int)) (2 : Int)) (2 : Int)) (1 : Int)) (1 : Int)) (1 : Int)) (1 : Int))) : Int)))) && true))))))))) && (decide ((ByteArray.size s) ≤ (9223372036854775807 : Nat)))) && true)) ∧ (Φ (AV.v (Value.tuple #[(Value.agg #[(Value.int IntKind.i64 (0 : Int)), (Value.int IntKind.i64 (0 : Int)), (Value.int IntKind.i64 (0 : Int)), (Value.int IntKind.i64 (0 : Int)), (Value.int IntKind.i64 (0 : Int)), (Value.int IntKind.i64 (0 : Int)), (Value.int IntKind.i64 (0 : Int)), (Value.int IntKind.i64 (0 : Int)), (Value.int IntKind.i64 (0 : Int))]), (Value.int IntKind.i64 (2 : Int))]))))) else (bif ((P26.chk26 (P26.nine [(exInt (AV.v (Value.int IntKind.i64 (Oc.takeN s (1 : Int))))), (exInt (AV.v (Value.int IntKind.i64 (Oc.takeN (Oc.takeR s (1 : Int)) (4 : Int))))), (Oc.takeN (Oc.takeR (Oc.takeR s (1 : Int)) (4 : Int)) (2 : Int)), (Oc.takeN (Oc.takeR (Oc.takeR (Oc.takeR s (1 : Int)) (4 : Int)) (2 : Int)) (2 : Int)), (Oc.takeN (Oc.takeR (Oc.takeR (Oc.takeR (Oc.takeR s (1 : Int)) (4 : Int)) (2 : Int)) (2 : Int)) (1 : Int)), (Oc.takeN (Oc.takeR (Oc.takeR (Oc.takeR (Oc.takeR (Oc.takeR s (1 : Int)) (4 : Int)) (2 : Int)) (2 : Int)) (1 : Int)) (1 : Int)), (Oc.takeN (Oc.takeR (Oc.takeR (Oc.takeR (Oc.takeR (Oc.takeR (Oc.takeR s (1 : Int)) (4 : Int)) (2 : Int)) (2 : Int)) (1 : Int)) (1 : Int)) (1 : Int)), (Oc.takeN (Oc.takeR (Oc.takeR (Oc.takeR (Oc.takeR (Oc.takeR (Oc.takeR (Oc.takeR s (1 : Int)) (4 : Int)) (2 : Int)) (2 : Int)) (1 : Int)) (1 : Int)) (1 : Int)) (1 : Int)), (Oc.takeN (Oc.takeR (Oc.takeR (Oc.takeR (Oc.takeR (Oc.takeR (Oc.takeR (Oc.takeR (Oc.takeR s (1 : Int)) (4 : Int)) (2 : Int)) (2 : Int)) (1 : Int)) (1 : Int)) (1 : Int)) (1 : Int)) (1 : Int))])) != (0 : Int)) then (some ((cdb True ((((true && (decide ((1 : Int) ≤ ((ByteArray.size s) : Int)))) && ((true && (decide ((4 : Int) ≤ ((ByteArray.size (Oc.takeR s (1 : Int))) : Int)))) && ((true && (decide ((2 : Int) ≤ ((ByteArray.size (Oc.takeR (Oc.takeR s (1 : Int)) (4 : Int))) : Int)))) && ((true && (decide ((2 : Int) ≤ ((ByteArray.size (Oc.takeR (Oc.takeR (Oc.takeR s (1 : Int)) (4 : Int)) (2 : Int))) : Int)))) && ((true && (decide ((1 : Int) ≤ ((ByteArray.size (Oc.takeR (Oc.takeR (Oc.takeR (Oc.takeR s (1 : Int)) (4 : Int)) (2 : Int)) (2 : Int))) : Int)))) && ((true && (decide ((1 : Int) ≤ ((ByteArray.size (Oc.takeR (Oc.takeR (Oc.takeR (Oc.takeR (Oc.takeR s (1 : Int)) (4 : Int)) (2 : Int)) (2 : Int)) (1 : Int))) : Int)))) && ((true && (decide ((1 : Int) ≤ ((ByteArray.size (Oc.takeR (Oc.takeR (Oc.takeR (Oc.takeR (Oc.takeR (Oc.takeR s (1 : Int)) (4 : Int)) (2 : Int)) (2 : Int)) (1 : Int)) (1 : Int))) : Int)))) && ((true && (decide ((1 : Int) ≤ ((ByteArray.size (Oc.takeR (Oc.takeR (Oc.takeR (Oc.takeR (Oc.takeR (Oc.takeR (Oc.takeR s (1 : Int)) (4 : Int)) (2 : Int)) (2 : Int)) (1 : Int)) (1 : Int)) (1 : Int))) : Int)))) && ((true && (decide ((1 : Int) ≤ ((ByteArray.size (Oc.takeR (Oc.takeR (Oc.takeR (Oc.takeR (Oc.takeR (Oc.takeR (Oc.takeR (Oc.takeR s (1 : Int)) (4 : Int)) (2 : Int)) (2 : Int)) (1 : Int)) (1 : Int)) (1 : Int)) (1 : Int))) : Int)))) && true))))))))) && (decide ((ByteArray.size s) ≤ (9223372036854775807 : Nat)))) && true)) ∧ (Φ (AV.v (Value.tuple #[(Value.agg #[(Value.int IntKind.i64 (0 : Int)), (Value.int IntKind.i64 (0 : Int)), (Value.int IntKind.i64 (0 : Int)), (Value.int IntKind.i64 (0 : Int)), (Value.int IntKind.i64 (0 : Int)), (Value.int IntKind.i64 (0 : Int)), (Value.int IntKind.i64 (0 : Int)), (Value.int IntKind.i64 (0 : Int)), (Value.int IntKind.i64 (0 : Int))]), (Value.int IntKind.i64 (2 : Int))]))))) else (some ((cdb True ((((true && (decide ((1 : Int) ≤ ((ByteArray.size s) : Int)))) && ((true && (decide ((4 : Int) ≤ ((ByteArray.size (Oc.takeR s (1 : Int))) : Int)))) && ((true && (decide ((2 : Int) ≤ ((ByteArray.size (Oc.takeR (Oc.takeR s (1 : Int)) (4 : Int))) : Int)))) && ((true && (decide ((2 : Int) ≤ ((ByteArray.size (Oc.takeR (Oc.takeR (Oc.takeR s (1 : Int)) (4 : Int)) (2 : Int))) : Int)))) && ((true && (decide ((1 : Int) ≤ ((ByteArray.size (Oc.takeR (Oc.takeR (Oc.takeR (Oc.takeR s (1 : Int)) (4 : Int)) (2 : Int)) (2 : Int))) : Int)))) && ((true && (decide ((1 : Int) ≤ ((ByteArray.size (Oc.takeR (Oc.takeR (Oc.takeR (Oc.takeR (Oc.takeR s (1 : Int)) (4 : Int)) (2 : Int)) (2 : Int)) (1 : Int))) : Int)))) && ((true && (decide ((1 : Int) ≤ ((ByteArray.size (Oc.takeR (Oc.takeR (Oc.takeR (Oc.takeR (Oc.takeR (Oc.takeR s (1 : Int)) (4 : Int)) (2 : Int)) (2 : Int)) (1 : Int)) (1 : Int))) : Int)))) && ((true && (decide ((1 : Int) ≤ ((ByteArray.size (Oc.takeR (Oc.takeR (Oc.takeR (Oc.takeR (Oc.takeR (Oc.takeR (Oc.takeR s (1 : Int)) (4 : Int)) (2 : Int)) (2 : Int)) (1 : Int)) (1 : Int)) (1 : Int))) : Int)))) && ((true && (decide ((1 : Int) ≤ ((ByteArray.size (Oc.takeR (Oc.takeR (Oc.takeR (Oc.takeR (Oc.takeR (Oc.takeR (Oc.takeR (Oc.takeR s (1 : Int)) (4 : Int)) (2 : Int)) (2 : Int)) (1 : Int)) (1 : Int)) (1 : Int)) (1 : Int))) : Int)))) && true))))))))) && (decide ((ByteArray.size s) ≤ (9223372036854775807 : Nat)))) && true)) ∧ (Φ (AV.v (Value.tuple #[(Value.agg #[(Value.int IntKind.i64 (exInt (AV.v (Value.int IntKind.i64 (Oc.takeN s (1 : Int)))))), (Value.int IntKind.i64 (exInt (AV.v (Value.int IntKind.i64 (Oc.takeN (Oc.takeR s (1 : Int)) (4 : Int)))))), (Value.int IntKind.i64 (Oc.takeN (Oc.takeR (Oc.takeR s (1 : Int)) (4 : Int)) (2 : Int))), (Value.int IntKind.i64 (Oc.takeN (Oc.takeR (Oc.takeR (Oc.takeR s (1 : Int)) (4 : Int)) (2 : Int)) (2 : Int))), (Value.int IntKind.i64 (Oc.takeN (Oc.takeR (Oc.takeR (Oc.takeR (Oc.takeR s (1 : Int)) (4 : Int)) (2 : Int)) (2 : Int)) (1 : Int))), (Value.int IntKind.i64 (Oc.takeN (Oc.takeR (Oc.takeR (Oc.takeR (Oc.takeR (Oc.takeR s (1 : Int)) (4 : Int)) (2 : Int)) (2 : Int)) (1 : Int)) (1 : Int))), (Value.int IntKind.i64 (Oc.takeN (Oc.takeR (Oc.takeR (Oc.takeR (Oc.takeR (Oc.takeR (Oc.takeR s (1 : Int)) (4 : Int)) (2 : Int)) (2 : Int)) (1 : Int)) (1 : Int)) (1 : Int))), (Value.int IntKind.i64 (Oc.takeN (Oc.takeR (Oc.takeR (Oc.takeR (Oc.takeR (Oc.takeR (Oc.takeR (Oc.takeR s (1 : Int)) (4 : Int)) (2 : Int)) (2 : Int)) (1 : Int)) (1 : Int)) (1 : Int)) (1 : Int))), (Value.int IntKind.i64 (Oc.takeN (Oc.takeR (Oc.takeR (Oc.takeR (Oc.takeR (Oc.takeR (Oc.takeR (Oc.takeR (Oc.takeR s (1 : Int)) (4 : Int)) (2 : Int)) (2 : Int)) (1 : Int)) (1 : Int)) (1 : Int)) (1 : Int)) (1 : Int)))]), (Value.int IntKind.i64 (0 : Int))])))))))) := by kernel_rfl
end Go.Proofs.YtlonpmcgejdkkaaGreatDoor.AE.P26
namespace Go.Proofs.YtlonpmcgejdkkaaGreatDoor.AE.P26
set_option maxRecDepth 100000
open Go.RowKit Oc Nm
/-! Takes. -/
theorem take_ok_of {r : ByteArray} {m : Int} (h : (takeE r m != 0) = false) (h1 : 1 ≤ m) (h2 : m ≤ 6) : m ≤ r.size ∧ ((takeR r m).size : Int) = r.size - m := by
  have h : takeE r m = 0 := by simpa using h
  unfold takeE at h
  rw [if_neg (by omega)] at h
  split at h
  · cases h
  · rename_i hlt
    have hin : inT r m = true := by simp only [inT, Bool.and_eq_true, decide_eq_true_eq]; omega
    refine ⟨by omega, ?_⟩
    rw [takeR, if_pos hin, ByteArray.size_extract]
    omega
theorem take_bad_of {r : ByteArray} {m : Int} (h : (takeE r m != 0) = true) (h1 : 1 ≤ m) (h2 : m ≤ 6) : takeE r m = 3 ∧ (r.size : Int) < m := by
  have h : takeE r m ≠ 0 := by simpa using h
  unfold takeE at h ⊢
  rw [if_neg (by omega)] at h ⊢
  split at h
  · rename_i hlt; rw [if_pos hlt]; exact ⟨rfl, hlt⟩
  · exact absurd rfl h
theorem takeR_size {r : ByteArray} {m : Int} (h1 : 1 ≤ m) (h2 : m ≤ 6) (h : m ≤ r.size) : ((takeR r m).size : Int) = r.size - m := by
  have hin : inT r m = true := by simp only [inT, Bool.and_eq_true, decide_eq_true_eq]; omega
  rw [takeR, if_pos hin, ByteArray.size_extract]
  omega
def w26 : List Int := [1, 4, 2, 2, 1, 1, 1, 1, 1]
def vals26 (s : ByteArray) : Nat → Int := nine (numsOf w26 s)
def getE (s : ByteArray) : Int := if s.size < 14 then 3 else if 14 < s.size ∨ chk26 (vals26 s) ≠ 0 then 2 else 0
def getN (s : ByteArray) : Nat → Int := if getE s = 0 then vals26 s else fun _ => 0
def pushV (f : Nat → Int) : Value := .agg #[.int .i64 (f 0), .int .i64 (f 1), .int .i64 (f 2), .int .i64 (f 3), .int .i64 (f 4), .int .i64 (f 5), .int .i64 (f 6), .int .i64 (f 7), .int .i64 (f 8)]
def getV (s : ByteArray) : Value := .tuple #[pushV (getN s), .int .i64 (getE s)]
theorem get_err {s : ByteArray} {e : Int} (h : getE s = e) (hne : e ≠ 0) : AV.v (.tuple #[pushV fun _ => 0, .int .i64 e]) = AV.v (getV s) := by
  unfold getV getN
  rw [h, if_neg hne]
theorem get_good {s : ByteArray} (h : getE s = 0) : AV.v (.tuple #[pushV (vals26 s), .int .i64 0]) = AV.v (getV s) := by
  unfold getV getN
  rw [h, if_pos rfl]
theorem e3 {s : ByteArray} (h : (s.size : Int) < 14) : getE s = 3 := by unfold getE; rw [if_pos (by omega)]
theorem e2 {s : ByteArray} (h : (14 : Int) ≤ s.size) (h2 : (14 : Int) < s.size ∨ chk26 (vals26 s) ≠ 0) : getE s = 2 := by
  unfold getE; rw [if_neg (by omega), if_pos (by rcases h2 with h2 | h2; exact .inl (by omega); exact .inr h2)]
theorem e0 {s : ByteArray} (h : (s.size : Int) = 14) (h2 : chk26 (vals26 s) = 0) : getE s = 0 := by
  unfold getE; rw [if_neg (by omega), if_neg (by rintro (h3 | h3); omega; exact h3 h2)]
theorem en26 {s : ByteArray} (h : (14 : Int) ≤ s.size) : enough w26 s = true := by
  have t := fun (r : ByteArray) (m : Int) (h1 : 1 ≤ m) (h2 : m ≤ 6) (h : m ≤ r.size) => (show inT r m = true by simp only [inT, Bool.and_eq_true, decide_eq_true_eq]; omega)
  have a1 := @takeR_size s 1 (by decide) (by decide) (by omega)
  have a2 := @takeR_size (takeR s 1) 4 (by decide) (by decide) (by omega)
  have a3 := @takeR_size (takeR (takeR s 1) 4) 2 (by decide) (by decide) (by omega)
  have a4 := @takeR_size (takeR (takeR (takeR s 1) 4) 2) 2 (by decide) (by decide) (by omega)
  have a5 := @takeR_size (takeR (takeR (takeR (takeR s 1) 4) 2) 2) 1 (by decide) (by decide) (by omega)
  have a6 := @takeR_size (takeR (takeR (takeR (takeR (takeR s 1) 4) 2) 2) 1) 1 (by decide) (by decide) (by omega)
  have a7 := @takeR_size (takeR (takeR (takeR (takeR (takeR (takeR s 1) 4) 2) 2) 1) 1) 1 (by decide) (by decide) (by omega)
  have a8 := @takeR_size (takeR (takeR (takeR (takeR (takeR (takeR (takeR s 1) 4) 2) 2) 1) 1) 1) 1 (by decide) (by decide) (by omega)
  simp only [w26, enough, Bool.and_eq_true, and_true]
  refine ⟨t _ _ (by decide) (by decide) (by omega), t _ _ (by decide) (by decide) (by omega), t _ _ (by decide) (by decide) (by omega), t _ _ (by decide) (by decide) (by omega), t _ _ (by decide) (by decide) (by omega), t _ _ (by decide) (by decide) (by omega), t _ _ (by decide) (by decide) (by omega), t _ _ (by decide) (by decide) (by omega), t _ _ (by decide) (by decide) (by omega)⟩
theorem fs_rget (s : ByteArray) (hs : s.size ≤ maxLen) : Fs Tryz.prog ro26 38 [.v (.string s)] (hp [] []) fun r _ => r = .v (getV s) := by
  refine Fs.of_call knownB (t_rget s _) ?_ flatB
  have cd : (14 : Int) ≤ s.size → (enough w26 s && decide (s.size ≤ maxLen) && true) = true := fun h => by rw [en26 h, decide_eq_true hs]; rfl
  refine holds_bif (fun h => ?_) (fun h => ?_)
  · exact ⟨trivial, get_err (e3 (of_decide_eq_true h)) (by decide)⟩
  have h := of_decide_eq_false h
  have h14 : (14 : Int) ≤ s.size := by omega
  refine holds_bif (fun h2 => ?_) (fun h2 => ?_)
  · exact ⟨cdb_iff.2 ⟨trivial, cd h14⟩, get_err (e2 h14 (.inl (of_decide_eq_true h2))) (by decide)⟩
  have h2 := of_decide_eq_false h2
  refine holds_bif (fun h3 => ?_) (fun h3 => ?_)
  · have h3 : (chk26 (vals26 s) != 0) = true := Eq.trans (by kernel_rfl) h3
    exact ⟨cdb_iff.2 ⟨trivial, cd h14⟩, get_err (e2 h14 (.inr (by simpa using h3))) (by decide)⟩
  · have h3 : (chk26 (vals26 s) != 0) = false := Eq.trans (by kernel_rfl) h3
    refine ⟨cdb_iff.2 ⟨trivial, cd h14⟩, ?_⟩
    rw [← get_good (e0 (by omega) (by simpa using h3))]
    kernel_rfl
end Go.Proofs.YtlonpmcgejdkkaaGreatDoor.AE.P26
namespace Go.Proofs.YtlonpmcgejdkkaaGreatDoor.AE.P26
set_option maxRecDepth 100000
open Go.RowKit Oc Nm
set_option maxHeartbeats 1000000 in
theorem fs_get (s : ByteArray) (hs : s.size ≤ maxLen) : Fs Tryz.prog ro26 34 [.v (.string s)] (hp [] []) fun r _ => r = .v (getV s) := by
  refine Fs.of_call knownB (t_get s _) ?_ flatB
  unfold maxLen at hs
  obtain ⟨s1, q1⟩ : ∃ x, x = takeR s 1 := ⟨_, rfl⟩
  obtain ⟨s2, q2⟩ : ∃ x, x = takeR s1 4 := ⟨_, rfl⟩
  obtain ⟨s3, q3⟩ : ∃ x, x = takeR s2 2 := ⟨_, rfl⟩
  obtain ⟨s4, q4⟩ : ∃ x, x = takeR s3 2 := ⟨_, rfl⟩
  obtain ⟨s5, q5⟩ : ∃ x, x = takeR s4 1 := ⟨_, rfl⟩
  obtain ⟨s6, q6⟩ : ∃ x, x = takeR s5 1 := ⟨_, rfl⟩
  obtain ⟨s7, q7⟩ : ∃ x, x = takeR s6 1 := ⟨_, rfl⟩
  obtain ⟨s8, q8⟩ : ∃ x, x = takeR s7 1 := ⟨_, rfl⟩
  obtain ⟨s9, q9⟩ : ∃ x, x = takeR s8 1 := ⟨_, rfl⟩
  rw [← q1, ← q2, ← q3, ← q4, ← q5, ← q6, ← q7, ← q8, ← q9]
  refine holds_bif (fun h => ?_) (fun h0 => ?_)
  · have b := take_bad_of h (by decide) (by decide)
    rw [b.1]
    refine ⟨?_, get_err (e3 (by omega)) (by decide)⟩
    repeat' first
      | with_reducible exact trivial
      | with_reducible refine cdb_iff.2 ⟨?_, ?_⟩
    all_goals (refine decide_eq_true ?_; omega)
  have o0 := take_ok_of h0 (by decide) (by decide)
  rw [← q1] at o0
  refine holds_bif (fun h => ?_) (fun h1 => ?_)
  · have b := take_bad_of h (by decide) (by decide)
    rw [b.1]
    refine ⟨?_, get_err (e3 (by omega)) (by decide)⟩
    repeat' first
      | with_reducible exact trivial
      | with_reducible refine cdb_iff.2 ⟨?_, ?_⟩
    all_goals (refine decide_eq_true ?_; omega)
  have o1 := take_ok_of h1 (by decide) (by decide)
  rw [← q2] at o1
  refine holds_bif (fun h => ?_) (fun h2 => ?_)
  · have b := take_bad_of h (by decide) (by decide)
    rw [b.1]
    refine ⟨?_, get_err (e3 (by omega)) (by decide)⟩
    repeat' first
      | with_reducible exact trivial
      | with_reducible refine cdb_iff.2 ⟨?_, ?_⟩
    all_goals (refine decide_eq_true ?_; omega)
  have o2 := take_ok_of h2 (by decide) (by decide)
  rw [← q3] at o2
  refine holds_bif (fun h => ?_) (fun h3 => ?_)
  · have b := take_bad_of h (by decide) (by decide)
    rw [b.1]
    refine ⟨?_, get_err (e3 (by omega)) (by decide)⟩
    repeat' first
      | with_reducible exact trivial
      | with_reducible refine cdb_iff.2 ⟨?_, ?_⟩
    all_goals (refine decide_eq_true ?_; omega)
  have o3 := take_ok_of h3 (by decide) (by decide)
  rw [← q4] at o3
  refine holds_bif (fun h => ?_) (fun h4 => ?_)
  · have b := take_bad_of h (by decide) (by decide)
    rw [b.1]
    refine ⟨?_, get_err (e3 (by omega)) (by decide)⟩
    repeat' first
      | with_reducible exact trivial
      | with_reducible refine cdb_iff.2 ⟨?_, ?_⟩
    all_goals (refine decide_eq_true ?_; omega)
  have o4 := take_ok_of h4 (by decide) (by decide)
  rw [← q5] at o4
  refine holds_bif (fun h => ?_) (fun h5 => ?_)
  · have b := take_bad_of h (by decide) (by decide)
    rw [b.1]
    refine ⟨?_, get_err (e3 (by omega)) (by decide)⟩
    repeat' first
      | with_reducible exact trivial
      | with_reducible refine cdb_iff.2 ⟨?_, ?_⟩
    all_goals (refine decide_eq_true ?_; omega)
  have o5 := take_ok_of h5 (by decide) (by decide)
  rw [← q6] at o5
  refine holds_bif (fun h => ?_) (fun h6 => ?_)
  · have b := take_bad_of h (by decide) (by decide)
    rw [b.1]
    refine ⟨?_, get_err (e3 (by omega)) (by decide)⟩
    repeat' first
      | with_reducible exact trivial
      | with_reducible refine cdb_iff.2 ⟨?_, ?_⟩
    all_goals (refine decide_eq_true ?_; omega)
  have o6 := take_ok_of h6 (by decide) (by decide)
  rw [← q7] at o6
  refine holds_bif (fun h => ?_) (fun h7 => ?_)
  · have b := take_bad_of h (by decide) (by decide)
    rw [b.1]
    refine ⟨?_, get_err (e3 (by omega)) (by decide)⟩
    repeat' first
      | with_reducible exact trivial
      | with_reducible refine cdb_iff.2 ⟨?_, ?_⟩
    all_goals (refine decide_eq_true ?_; omega)
  have o7 := take_ok_of h7 (by decide) (by decide)
  rw [← q8] at o7
  refine holds_bif (fun h => ?_) (fun h8 => ?_)
  · have b := take_bad_of h (by decide) (by decide)
    rw [b.1]
    refine ⟨?_, get_err (e3 (by omega)) (by decide)⟩
    repeat' first
      | with_reducible exact trivial
      | with_reducible refine cdb_iff.2 ⟨?_, ?_⟩
    all_goals (refine decide_eq_true ?_; omega)
  have o8 := take_ok_of h8 (by decide) (by decide)
  rw [← q9] at o8
  refine holds_bif (fun h => ?_) (fun h => ?_)
  · have h := of_decide_eq_true h
    refine ⟨?_, get_err (e2 (by omega) (.inl (by omega))) (by decide)⟩
    repeat' first
      | with_reducible exact trivial
      | with_reducible refine cdb_iff.2 ⟨?_, ?_⟩
    all_goals (refine decide_eq_true ?_; omega)
  have h := of_decide_eq_false h
  refine holds_bif (fun h3 => ?_) (fun h3 => ?_)
  · have h3 : (chk26 (vals26 s) != 0) = true := Eq.trans (by subst q9 q8 q7 q6 q5 q4 q3 q2 q1; kernel_rfl) h3
    refine ⟨?_, get_err (e2 (by omega) (.inr (by simpa using h3))) (by decide)⟩
    repeat' first
      | with_reducible exact trivial
      | with_reducible refine cdb_iff.2 ⟨?_, ?_⟩
    all_goals (refine decide_eq_true ?_; omega)
  · have h3 : (chk26 (vals26 s) != 0) = false := Eq.trans (by subst q9 q8 q7 q6 q5 q4 q3 q2 q1; kernel_rfl) h3
    refine ⟨?_, ?_⟩
    · repeat' first
        | with_reducible exact trivial
        | with_reducible refine cdb_iff.2 ⟨?_, ?_⟩
      all_goals (refine decide_eq_true ?_; omega)
    · rw [← get_good (e0 (by omega) (by simpa using h3))]
      subst q9 q8 q7 q6 q5 q4 q3 q2 q1
      kernel_rfl
/-! Bodies. -/
def bytes26 (f : Nat → Int) : List UInt8 := be 1 (f 0).toNat ++ be 4 (f 1).toNat ++ be 2 (f 2).toNat ++ be 2 (f 3).toNat ++ be 1 (f 4).toNat ++ be 1 (f 5).toNat ++ be 1 (f 6).toNat ++ be 1 (f 7).toNat ++ be 1 (f 8).toNat
def putR (f : Nat → Int) : ByteArray := if okP f then ⟨(bytes26 f).toArray⟩ else ⟨#[]⟩
def putV (f : Nat → Int) : Value := .tuple #[.string (putR f), .int .i64 (chk26 f)]
theorem fits_of {n m : Int} (h1 : 1 ≤ m) (h2 : m ≤ 6) (h3 : 0 ≤ n) (h4 : n < 256 ^ m.toNat) : fits n m = true := by
  simp only [fits, Bool.and_eq_true, decide_eq_true_eq]; exact ⟨⟨⟨h1, h2⟩, h3⟩, h4⟩
theorem putS_mk {l : List UInt8} {n m : Int} (h : fits n m = true) : putS ⟨l.toArray⟩ n m = ⟨(l ++ be m.toNat n.toNat).toArray⟩ := by
  unfold putS; rw [if_pos h]
theorem num_mk {n m : Int} (h : fits n m = true) : numStr n m = ⟨(be m.toNat n.toNat).toArray⟩ := by
  simp only [fits, Bool.and_eq_true, decide_eq_true_eq] at h
  unfold numStr; rw [if_neg (by omega)]
theorem mk_app (l t : List UInt8) : (⟨l.toArray⟩ : ByteArray) ++ ⟨t.toArray⟩ = ⟨(l ++ t).toArray⟩ := by
  apply ByteArray.ext; simp
theorem mk_size (l : List UInt8) : (⟨l.toArray⟩ : ByteArray).size = l.length := by simp [ByteArray.size]
theorem fits26 {f : Nat → Int} (h : okP f) : fits (f 0) 1 = true ∧ fits (f 1) 4 = true ∧ fits (f 2) 2 = true ∧ fits (f 3) 2 = true ∧ fits (f 4) 1 = true ∧ fits (f 5) 1 = true ∧ fits (f 6) 1 = true ∧ fits (f 7) 1 = true ∧ fits (f 8) 1 = true := by
  obtain ⟨a0, b0, a1, b1, a2, b2, a3, b3, a4, b4, a5, b5, a6, b6, a7, b7, a8, b8⟩ := h
  refine ⟨fits_of (by decide) (by decide) a0 ?_, fits_of (by decide) (by decide) a1 ?_, fits_of (by decide) (by decide) a2 ?_, fits_of (by decide) (by decide) a3 ?_, fits_of (by decide) (by decide) a4 ?_, fits_of (by decide) (by decide) a5 ?_, fits_of (by decide) (by decide) a6 ?_, fits_of (by decide) (by decide) a7 ?_, fits_of (by decide) (by decide) a8 ?_⟩
  all_goals (simp; omega)
theorem put_bad {f : Nat → Int} (h : ¬ okP f) : AV.v (.tuple #[.string ⟨#[]⟩, .int .i64 1]) = AV.v (putV f) := by
  unfold putV putR chk26; rw [if_neg h, decide_eq_false h]; rfl
theorem put_good {f : Nat → Int} (h : okP f) : AV.v (.tuple #[.string ⟨(bytes26 f).toArray⟩, .int .i64 0]) = AV.v (putV f) := by
  unfold putV putR chk26; rw [if_pos h, decide_eq_true h]; rfl
theorem chk_ok {f : Nat → Int} (h : (chk26 f != 0) = false) : okP f := by
  unfold chk26 at h
  by_cases hok : okP f
  · exact hok
  · rw [decide_eq_false hok] at h; cases h
theorem chk_bad {f : Nat → Int} (h : (chk26 f != 0) = true) : ¬ okP f := fun hok => by
  unfold chk26 at h; rw [decide_eq_true hok] at h; cases h
theorem fs_put (f : Nat → Int) : Fs Tryz.prog ro26 143 [push f] (hp [] []) fun r _ => r = .v (putV f) := by
  refine Fs.of_call knownB (t_put f _) ?_ flatB
  refine holds_bif (fun h => ?_) (fun h => ?_)
  · have h : (chk26 f != 0) = true := Eq.trans (by kernel_rfl) h
    refine ⟨trivial, ?_⟩
    rw [← put_bad (chk_bad h)]
    have hc : chk26 f = 1 := by unfold chk26; rw [decide_eq_false (chk_bad h)]; rfl
    show AV.v (.tuple #[.string ⟨#[]⟩, .int .i64 (chk26 f)]) = _
    rw [hc]
  · have h : (chk26 f != 0) = false := Eq.trans (by kernel_rfl) h
    have hok := chk_ok h
    obtain ⟨g0, g1, g2, g3, g4, g5, g6, g7, g8⟩ := fits26 hok
    have e0 : (ByteArray.mk (Array.mk (@List.nil UInt8))) = ⟨([] : List UInt8).toArray⟩ := rfl
    rw [e0]
    simp only [putS_mk g0, putS_mk g1, putS_mk g2, putS_mk g3, putS_mk g4, putS_mk g5, putS_mk g6, putS_mk g7, putS_mk g8, mk_size]
    refine ⟨?_, put_good hok⟩
    repeat' first
      | with_reducible exact trivial
      | with_reducible refine cdb_iff.2 ⟨?_, ?_⟩
    all_goals (refine decide_eq_true ?_; simp [be_length])
theorem fs_rput (f : Nat → Int) : Fs Tryz.prog ro26 43 [push f] (hp [] []) fun r _ => r = .v (putV f) := by
  refine Fs.of_call knownB (t_rput f _) ?_ flatB
  refine holds_bif (fun h => ?_) (fun h => ?_)
  · have h : (chk26 f != 0) = true := Eq.trans (by kernel_rfl) h
    exact ⟨trivial, put_bad (chk_bad h)⟩
  · have h : (chk26 f != 0) = false := Eq.trans (by kernel_rfl) h
    have hok := chk_ok h
    obtain ⟨g0, g1, g2, g3, g4, g5, g6, g7, g8⟩ := fits26 hok
    have e0 : (ByteArray.mk (Array.mk (@List.nil UInt8))) = ⟨([] : List UInt8).toArray⟩ := rfl
    rw [e0]
    simp only [num_mk g0, num_mk g1, num_mk g2, num_mk g3, num_mk g4, num_mk g5, num_mk g6, num_mk g7, num_mk g8, mk_app, mk_size]
    refine ⟨?_, put_good hok⟩
    obtain ⟨a0, b0, a1, b1, a2, b2, a3, b3, a4, b4, a5, b5, a6, b6, a7, b7, a8, b8⟩ := hok
    repeat' first
      | with_reducible exact trivial
      | with_reducible refine cdb_iff.2 ⟨?_, ?_⟩
    all_goals (refine decide_eq_true ?_; first | omega | simp [be_length])
end Go.Proofs.YtlonpmcgejdkkaaGreatDoor.AE.P26
namespace Go.Proofs.YtlonpmcgejdkkaaGreatDoor.AE
set_option maxRecDepth 100000
open Go.RowKit
def wqV : List Value := [6, 1, 1, 1, 6, 2].map fun (n : Int) => .int .i64 n
def waV : List Value := [6, 1, 1, 1, 1, 4, 1].map fun (n : Int) => .int .i64 n
def wpV : List Value := [1, 4, 2, 2, 1, 1, 1, 1, 1].map fun (n : Int) => .int .i64 n
def roF : Nat → Option (List Value) := fun b => match b with
  | 0 => some wqV
  | 2 => some waV
  | 1 => some wpV
  | _ => none
theorem leQ : ∀ G W, Ro roF G W → Ro Q24.ro24 G W := fun G W h b cs hb => h b cs (by
  unfold Q24.ro24 at hb
  split at hb
  · cases hb; rfl
  · cases hb)
theorem leA : ∀ G W, Ro roF G W → Ro A25.ro25 G W := fun G W h b cs hb => h b cs (by
  unfold A25.ro25 at hb
  split at hb
  · cases hb; rfl
  · cases hb)
theorem leP : ∀ G W, Ro roF G W → Ro P26.ro26 G W := fun G W h b cs hb => h b cs (by
  unfold P26.ro26 at hb
  split at hb
  · cases hb; rfl
  · cases hb)
theorem leN : ∀ G W, Ro roF G W → Ro nro G W := fun _ _ _ => ro_none _ _
structure DS where
  gK : ByteArray → Int
  gB : ByteArray → ByteArray
  gE : ByteArray → Int
  qG : ByteArray → Nat → Int
  qF : ByteArray → Int
  aG : ByteArray → Nat → Int
  aF : ByteArray → Int
  pG : ByteArray → Nat → Int
  pF : ByteArray → Int
def hgP (K : ByteArray → Int) (B : ByteArray → ByteArray) (E : ByteArray → Int) : List Value → Option (Value × Bool) := fun us => match us with
  | [.string s] => some (.tuple #[.int .i64 (K s), .string (B s), .int .i64 (E s)], decide (s.size ≤ 100000))
  | _ => none
def g6P (G : ByteArray → Nat → Int) (F : ByteArray → Int) : List Value → Option (Value × Bool) := fun us => match us with
  | [.string s] => some (.tuple #[.agg #[.int .i64 (G s 0), .int .i64 (G s 1), .int .i64 (G s 2), .int .i64 (G s 3), .int .i64 (G s 4), .int .i64 (G s 5)], .int .i64 (F s)], decide (s.size ≤ maxLen))
  | _ => none
def g7P (G : ByteArray → Nat → Int) (F : ByteArray → Int) : List Value → Option (Value × Bool) := fun us => match us with
  | [.string s] => some (.tuple #[.agg #[.int .i64 (G s 0), .int .i64 (G s 1), .int .i64 (G s 2), .int .i64 (G s 3), .int .i64 (G s 4), .int .i64 (G s 5), .int .i64 (G s 6)], .int .i64 (F s)], decide (s.size ≤ maxLen))
  | _ => none
def g9P (G : ByteArray → Nat → Int) (F : ByteArray → Int) : List Value → Option (Value × Bool) := fun us => match us with
  | [.string s] => some (.tuple #[.agg #[.int .i64 (G s 0), .int .i64 (G s 1), .int .i64 (G s 2), .int .i64 (G s 3), .int .i64 (G s 4), .int .i64 (G s 5), .int .i64 (G s 6), .int .i64 (G s 7), .int .i64 (G s 8)], .int .i64 (F s)], decide (s.size ≤ maxLen))
  | _ => none
noncomputable def prD (S : DS) : FuncId → Option (List AV → AH → Ans) := fun g => match g with
  | 31 => some (pure? (hgP S.gK S.gB S.gE))
  | 35 => some (pure? (hgP S.gK S.gB S.gE))
  | 32 => some (pure? (g6P S.qG S.qF))
  | 36 => some (pure? (g6P S.qG S.qF))
  | 33 => some (pure? (g7P S.aG S.aF))
  | 37 => some (pure? (g7P S.aG S.aF))
  | 34 => some (pure? (g9P S.pG S.pF))
  | 38 => some (pure? (g9P S.pG S.pF))
  | _ => none
def muD : FuncId → Bool := fun g => (g == 31 + 1000000) || (g == 32 + 1000000) || (g == 33 + 1000000) || (g == 34 + 1000000)
theorem flatD {S : DS} : Flats muD (prD S) := by
  intro g h
  unfold muD at h
  simp only [Bool.or_eq_true] at h
  rcases h with ((h | h) | h) | h
  all_goals
    have h := Nat.add_right_cancel (eq_of_beq h)
    subst h
    exact ⟨_, rfl, pure_flat _⟩
theorem d_go (S : DS) (s : ByteArray) (Φ : AV → Prop) : callK roF muD (prD S) 10 17 [.v (.string s)] (hp [] []) (fun r h => some (h.cd ∧ Φ r)) =
    (bif (((S).3 s) != (0 : Int)) then (some ((cdb True (decide ((ByteArray.size s) ≤ (100000 : Nat)))) ∧ (Φ (AV.v (Value.tuple #[(Value.agg #[(Value.int IntKind.i64 (0 : Int)), (Value.int IntKind.i64 (0 : Int)), (Value.int IntKind.i64 (0 : Int)), (Value.int IntKind.i64 (0 : Int)), (Value.int IntKind.i64 (0 : Int)), (Value.int IntKind.i64 (0 : Int)), (Value.int IntKind.i64 (0 : Int)), (Value.int IntKind.i64 (0 : Int)), (Value.int IntKind.i64 (0 : Int)), (Value.int IntKind.i64 (0 : Int)), (Value.int IntKind.i64 (0 : Int)), (Value.int IntKind.i64 (0 : Int)), (Value.int IntKind.i64 (0 : Int)), (Value.int IntKind.i64 (0 : Int)), (Value.int IntKind.i64 (0 : Int)), (Value.int IntKind.i64 (0 : Int)), (Value.int IntKind.i64 (0 : Int)), (Value.int IntKind.i64 (0 : Int)), (Value.int IntKind.i64 (0 : Int)), (Value.int IntKind.i64 (0 : Int)), (Value.int IntKind.i64 (0 : Int)), (Value.int IntKind.i64 (0 : Int)), (Value.int IntKind.i64 (0 : Int))]), (Value.int IntKind.i64 ((S).3 s))]))))) else (bif (((S).1 s) == (1 : Int)) then (bif (((S).5 ((S).2 s)) != (0 : Int)) then (some ((cdb (cdb True (decide ((ByteArray.size s) ≤ (100000 : Nat)))) (decide ((ByteArray.size ((S).2 s)) ≤ (9223372036854775807 : Nat)))) ∧ (Φ (AV.v (Value.tuple #[(Value.agg #[(Value.int IntKind.i64 (0 : Int)), (Value.int IntKind.i64 (0 : Int)), (Value.int IntKind.i64 (0 : Int)), (Value.int IntKind.i64 (0 : Int)), (Value.int IntKind.i64 (0 : Int)), (Value.int IntKind.i64 (0 : Int)), (Value.int IntKind.i64 (0 : Int)), (Value.int IntKind.i64 (0 : Int)), (Value.int IntKind.i64 (0 : Int)), (Value.int IntKind.i64 (0 : Int)), (Value.int IntKind.i64 (0 : Int)), (Value.int IntKind.i64 (0 : Int)), (Value.int IntKind.i64 (0 : Int)), (Value.int IntKind.i64 (0 : Int)), (Value.int IntKind.i64 (0 : Int)), (Value.int IntKind.i64 (0 : Int)), (Value.int IntKind.i64 (0 : Int)), (Value.int IntKind.i64 (0 : Int)), (Value.int IntKind.i64 (0 : Int)), (Value.int IntKind.i64 (0 : Int)), (Value.int IntKind.i64 (0 : Int)), (Value.int IntKind.i64 (0 : Int)), (Value.int IntKind.i64 (0 : Int))]), (Value.int IntKind.i64 (2 : Int))]))))) else (some ((cdb (cdb True (decide ((ByteArray.size s) ≤ (100000 : Nat)))) (decide ((ByteArray.size ((S).2 s)) ≤ (9223372036854775807 : Nat)))) ∧ (Φ (AV.v (Value.tuple #[(Value.agg #[(Value.int IntKind.i64 ((S).1 s)), (Value.int IntKind.i64 ((S).4 ((S).2 s) (0 : Nat))), (Value.int IntKind.i64 ((S).4 ((S).2 s) (1 : Nat))), (Value.int IntKind.i64 ((S).4 ((S).2 s) (2 : Nat))), (Value.int IntKind.i64 ((S).4 ((S).2 s) (3 : Nat))), (Value.int IntKind.i64 ((S).4 ((S).2 s) (4 : Nat))), (Value.int IntKind.i64 ((S).4 ((S).2 s) (5 : Nat))), (Value.int IntKind.i64 (0 : Int)), (Value.int IntKind.i64 (0 : Int)), (Value.int IntKind.i64 (0 : Int)), (Value.int IntKind.i64 (0 : Int)), (Value.int IntKind.i64 (0 : Int)), (Value.int IntKind.i64 (0 : Int)), (Value.int IntKind.i64 (0 : Int)), (Value.int IntKind.i64 (0 : Int)), (Value.int IntKind.i64 (0 : Int)), (Value.int IntKind.i64 (0 : Int)), (Value.int IntKind.i64 (0 : Int)), (Value.int IntKind.i64 (0 : Int)), (Value.int IntKind.i64 (0 : Int)), (Value.int IntKind.i64 (0 : Int)), (Value.int IntKind.i64 (0 : Int)), (Value.int IntKind.i64 (0 : Int))]), (Value.int IntKind.i64 (0 : Int))])))))) else (bif (((S).1 s) == (2 : Int)) then (bif (((S).7 ((S).2 s)) != (0 : Int)) then (some ((cdb (cdb True (decide ((ByteArray.size s) ≤ (100000 : Nat)))) (decide ((ByteArray.size ((S).2 s)) ≤ (9223372036854775807 : Nat)))) ∧ (Φ (AV.v (Value.tuple #[(Value.agg #[(Value.int IntKind.i64 (0 : Int)), (Value.int IntKind.i64 (0 : Int)), (Value.int IntKind.i64 (0 : Int)), (Value.int IntKind.i64 (0 : Int)), (Value.int IntKind.i64 (0 : Int)), (Value.int IntKind.i64 (0 : Int)), (Value.int IntKind.i64 (0 : Int)), (Value.int IntKind.i64 (0 : Int)), (Value.int IntKind.i64 (0 : Int)), (Value.int IntKind.i64 (0 : Int)), (Value.int IntKind.i64 (0 : Int)), (Value.int IntKind.i64 (0 : Int)), (Value.int IntKind.i64 (0 : Int)), (Value.int IntKind.i64 (0 : Int)), (Value.int IntKind.i64 (0 : Int)), (Value.int IntKind.i64 (0 : Int)), (Value.int IntKind.i64 (0 : Int)), (Value.int IntKind.i64 (0 : Int)), (Value.int IntKind.i64 (0 : Int)), (Value.int IntKind.i64 (0 : Int)), (Value.int IntKind.i64 (0 : Int)), (Value.int IntKind.i64 (0 : Int)), (Value.int IntKind.i64 (0 : Int))]), (Value.int IntKind.i64 (2 : Int))]))))) else (some ((cdb (cdb True (decide ((ByteArray.size s) ≤ (100000 : Nat)))) (decide ((ByteArray.size ((S).2 s)) ≤ (9223372036854775807 : Nat)))) ∧ (Φ (AV.v (Value.tuple #[(Value.agg #[(Value.int IntKind.i64 ((S).1 s)), (Value.int IntKind.i64 (0 : Int)), (Value.int IntKind.i64 (0 : Int)), (Value.int IntKind.i64 (0 : Int)), (Value.int IntKind.i64 (0 : Int)), (Value.int IntKind.i64 (0 : Int)), (Value.int IntKind.i64 (0 : Int)), (Value.int IntKind.i64 ((S).6 ((S).2 s) (0 : Nat))), (Value.int IntKind.i64 ((S).6 ((S).2 s) (1 : Nat))), (Value.int IntKind.i64 ((S).6 ((S).2 s) (2 : Nat))), (Value.int IntKind.i64 ((S).6 ((S).2 s) (3 : Nat))), (Value.int IntKind.i64 ((S).6 ((S).2 s) (4 : Nat))), (Value.int IntKind.i64 ((S).6 ((S).2 s) (5 : Nat))), (Value.int IntKind.i64 ((S).6 ((S).2 s) (6 : Nat))), (Value.int IntKind.i64 (0 : Int)), (Value.int IntKind.i64 (0 : Int)), (Value.int IntKind.i64 (0 : Int)), (Value.int IntKind.i64 (0 : Int)), (Value.int IntKind.i64 (0 : Int)), (Value.int IntKind.i64 (0 : Int)), (Value.int IntKind.i64 (0 : Int)), (Value.int IntKind.i64 (0 : Int)), (Value.int IntKind.i64 (0 : Int))]), (Value.int IntKind.i64 (0 : Int))])))))) else (bif (((S).1 s) == (3 : Int)) then (bif (((S).9 ((S).2 s)) != (0 : Int)) then (some ((cdb (cdb True (decide ((ByteArray.size s) ≤ (100000 : Nat)))) (decide ((ByteArray.size ((S).2 s)) ≤ (9223372036854775807 : Nat)))) ∧ (Φ (AV.v (Value.tuple #[(Value.agg #[(Value.int IntKind.i64 (0 : Int)), (Value.int IntKind.i64 (0 : Int)), (Value.int IntKind.i64 (0 : Int)), (Value.int IntKind.i64 (0 : Int)), (Value.int IntKind.i64 (0 : Int)), (Value.int IntKind.i64 (0 : Int)), (Value.int IntKind.i64 (0 : Int)), (Value.int IntKind.i64 (0 : Int)), (Value.int IntKind.i64 (0 : Int)), (Value.int IntKind.i64 (0 : Int)), (Value.int IntKind.i64 (0 : Int)), (Value.int IntKind.i64 (0 : Int)), (Value.int IntKind.i64 (0 : Int)), (Value.int IntKind.i64 (0 : Int)), (Value.int IntKind.i64 (0 : Int)), (Value.int IntKind.i64 (0 : Int)), (Value.int IntKind.i64 (0 : Int)), (Value.int IntKind.i64 (0 : Int)), (Value.int IntKind.i64 (0 : Int)), (Value.int IntKind.i64 (0 : Int)), (Value.int IntKind.i64 (0 : Int)), (Value.int IntKind.i64 (0 : Int)), (Value.int IntKind.i64 (0 : Int))]), (Value.int IntKind.i64 (2 : Int))]))))) else (some ((cdb (cdb True (decide ((ByteArray.size s) ≤ (100000 : Nat)))) (decide ((ByteArray.size ((S).2 s)) ≤ (9223372036854775807 : Nat)))) ∧ (Φ (AV.v (Value.tuple #[(Value.agg #[(Value.int IntKind.i64 ((S).1 s)), (Value.int IntKind.i64 (0 : Int)), (Value.int IntKind.i64 (0 : Int)), (Value.int IntKind.i64 (0 : Int)), (Value.int IntKind.i64 (0 : Int)), (Value.int IntKind.i64 (0 : Int)), (Value.int IntKind.i64 (0 : Int)), (Value.int IntKind.i64 (0 : Int)), (Value.int IntKind.i64 (0 : Int)), (Value.int IntKind.i64 (0 : Int)), (Value.int IntKind.i64 (0 : Int)), (Value.int IntKind.i64 (0 : Int)), (Value.int IntKind.i64 (0 : Int)), (Value.int IntKind.i64 (0 : Int)), (Value.int IntKind.i64 ((S).8 ((S).2 s) (0 : Nat))), (Value.int IntKind.i64 ((S).8 ((S).2 s) (1 : Nat))), (Value.int IntKind.i64 ((S).8 ((S).2 s) (2 : Nat))), (Value.int IntKind.i64 ((S).8 ((S).2 s) (3 : Nat))), (Value.int IntKind.i64 ((S).8 ((S).2 s) (4 : Nat))), (Value.int IntKind.i64 ((S).8 ((S).2 s) (5 : Nat))), (Value.int IntKind.i64 ((S).8 ((S).2 s) (6 : Nat))), (Value.int IntKind.i64 ((S).8 ((S).2 s) (7 : Nat))), (Value.int IntKind.i64 ((S).8 ((S).2 s) (8 : Nat)))]), (Value.int IntKind.i64 (0 : Int))])))))) else (bif (((S).3 s) != (0 : Int)) then (some ((cdb True (decide ((ByteArray.size s) ≤ (100000 : Nat)))) ∧ (Φ (AV.v (Value.tuple #[(Value.agg #[(Value.int IntKind.i64 (0 : Int)), (Value.int IntKind.i64 (0 : Int)), (Value.int IntKind.i64 (0 : Int)), (Value.int IntKind.i64 (0 : Int)), (Value.int IntKind.i64 (0 : Int)), (Value.int IntKind.i64 (0 : Int)), (Value.int IntKind.i64 (0 : Int)), (Value.int IntKind.i64 (0 : Int)), (Value.int IntKind.i64 (0 : Int)), (Value.int IntKind.i64 (0 : Int)), (Value.int IntKind.i64 (0 : Int)), (Value.int IntKind.i64 (0 : Int)), (Value.int IntKind.i64 (0 : Int)), (Value.int IntKind.i64 (0 : Int)), (Value.int IntKind.i64 (0 : Int)), (Value.int IntKind.i64 (0 : Int)), (Value.int IntKind.i64 (0 : Int)), (Value.int IntKind.i64 (0 : Int)), (Value.int IntKind.i64 (0 : Int)), (Value.int IntKind.i64 (0 : Int)), (Value.int IntKind.i64 (0 : Int)), (Value.int IntKind.i64 (0 : Int)), (Value.int IntKind.i64 (0 : Int))]), (Value.int IntKind.i64 (2 : Int))]))))) else (some ((cdb True (decide ((ByteArray.size s) ≤ (100000 : Nat)))) ∧ (Φ (AV.v (Value.tuple #[(Value.agg #[(Value.int IntKind.i64 ((S).1 s)), (Value.int IntKind.i64 (0 : Int)), (Value.int IntKind.i64 (0 : Int)), (Value.int IntKind.i64 (0 : Int)), (Value.int IntKind.i64 (0 : Int)), (Value.int IntKind.i64 (0 : Int)), (Value.int IntKind.i64 (0 : Int)), (Value.int IntKind.i64 (0 : Int)), (Value.int IntKind.i64 (0 : Int)), (Value.int IntKind.i64 (0 : Int)), (Value.int IntKind.i64 (0 : Int)), (Value.int IntKind.i64 (0 : Int)), (Value.int IntKind.i64 (0 : Int)), (Value.int IntKind.i64 (0 : Int)), (Value.int IntKind.i64 (0 : Int)), (Value.int IntKind.i64 (0 : Int)), (Value.int IntKind.i64 (0 : Int)), (Value.int IntKind.i64 (0 : Int)), (Value.int IntKind.i64 (0 : Int)), (Value.int IntKind.i64 (0 : Int)), (Value.int IntKind.i64 (0 : Int)), (Value.int IntKind.i64 (0 : Int)), (Value.int IntKind.i64 (0 : Int))]), (Value.int IntKind.i64 (0 : Int))])))))))))) := by kernel_rfl
theorem d_rgo (S : DS) (s : ByteArray) (Φ : AV → Prop) : callK roF muD (prD S) 10 18 [.v (.string s)] (hp [] []) (fun r h => some (h.cd ∧ Φ r)) =
    (bif (((S).3 s) != (0 : Int)) then (some ((cdb True (decide ((ByteArray.size s) ≤ (100000 : Nat)))) ∧ (Φ (AV.v (Value.tuple #[(Value.agg #[(Value.int IntKind.i64 (0 : Int)), (Value.int IntKind.i64 (0 : Int)), (Value.int IntKind.i64 (0 : Int)), (Value.int IntKind.i64 (0 : Int)), (Value.int IntKind.i64 (0 : Int)), (Value.int IntKind.i64 (0 : Int)), (Value.int IntKind.i64 (0 : Int)), (Value.int IntKind.i64 (0 : Int)), (Value.int IntKind.i64 (0 : Int)), (Value.int IntKind.i64 (0 : Int)), (Value.int IntKind.i64 (0 : Int)), (Value.int IntKind.i64 (0 : Int)), (Value.int IntKind.i64 (0 : Int)), (Value.int IntKind.i64 (0 : Int)), (Value.int IntKind.i64 (0 : Int)), (Value.int IntKind.i64 (0 : Int)), (Value.int IntKind.i64 (0 : Int)), (Value.int IntKind.i64 (0 : Int)), (Value.int IntKind.i64 (0 : Int)), (Value.int IntKind.i64 (0 : Int)), (Value.int IntKind.i64 (0 : Int)), (Value.int IntKind.i64 (0 : Int)), (Value.int IntKind.i64 (0 : Int))]), (Value.int IntKind.i64 ((S).3 s))]))))) else (bif (((S).1 s) == (1 : Int)) then (bif (((S).5 ((S).2 s)) != (0 : Int)) then (some ((cdb (cdb True (decide ((ByteArray.size s) ≤ (100000 : Nat)))) (decide ((ByteArray.size ((S).2 s)) ≤ (9223372036854775807 : Nat)))) ∧ (Φ (AV.v (Value.tuple #[(Value.agg #[(Value.int IntKind.i64 (0 : Int)), (Value.int IntKind.i64 (0 : Int)), (Value.int IntKind.i64 (0 : Int)), (Value.int IntKind.i64 (0 : Int)), (Value.int IntKind.i64 (0 : Int)), (Value.int IntKind.i64 (0 : Int)), (Value.int IntKind.i64 (0 : Int)), (Value.int IntKind.i64 (0 : Int)), (Value.int IntKind.i64 (0 : Int)), (Value.int IntKind.i64 (0 : Int)), (Value.int IntKind.i64 (0 : Int)), (Value.int IntKind.i64 (0 : Int)), (Value.int IntKind.i64 (0 : Int)), (Value.int IntKind.i64 (0 : Int)), (Value.int IntKind.i64 (0 : Int)), (Value.int IntKind.i64 (0 : Int)), (Value.int IntKind.i64 (0 : Int)), (Value.int IntKind.i64 (0 : Int)), (Value.int IntKind.i64 (0 : Int)), (Value.int IntKind.i64 (0 : Int)), (Value.int IntKind.i64 (0 : Int)), (Value.int IntKind.i64 (0 : Int)), (Value.int IntKind.i64 (0 : Int))]), (Value.int IntKind.i64 (2 : Int))]))))) else (some ((cdb (cdb True (decide ((ByteArray.size s) ≤ (100000 : Nat)))) (decide ((ByteArray.size ((S).2 s)) ≤ (9223372036854775807 : Nat)))) ∧ (Φ (AV.v (Value.tuple #[(Value.agg #[(Value.int IntKind.i64 ((S).1 s)), (Value.int IntKind.i64 ((S).4 ((S).2 s) (0 : Nat))), (Value.int IntKind.i64 ((S).4 ((S).2 s) (1 : Nat))), (Value.int IntKind.i64 ((S).4 ((S).2 s) (2 : Nat))), (Value.int IntKind.i64 ((S).4 ((S).2 s) (3 : Nat))), (Value.int IntKind.i64 ((S).4 ((S).2 s) (4 : Nat))), (Value.int IntKind.i64 ((S).4 ((S).2 s) (5 : Nat))), (Value.int IntKind.i64 (0 : Int)), (Value.int IntKind.i64 (0 : Int)), (Value.int IntKind.i64 (0 : Int)), (Value.int IntKind.i64 (0 : Int)), (Value.int IntKind.i64 (0 : Int)), (Value.int IntKind.i64 (0 : Int)), (Value.int IntKind.i64 (0 : Int)), (Value.int IntKind.i64 (0 : Int)), (Value.int IntKind.i64 (0 : Int)), (Value.int IntKind.i64 (0 : Int)), (Value.int IntKind.i64 (0 : Int)), (Value.int IntKind.i64 (0 : Int)), (Value.int IntKind.i64 (0 : Int)), (Value.int IntKind.i64 (0 : Int)), (Value.int IntKind.i64 (0 : Int)), (Value.int IntKind.i64 (0 : Int))]), (Value.int IntKind.i64 (0 : Int))])))))) else (bif (((S).1 s) == (2 : Int)) then (bif (((S).7 ((S).2 s)) != (0 : Int)) then (some ((cdb (cdb True (decide ((ByteArray.size s) ≤ (100000 : Nat)))) (decide ((ByteArray.size ((S).2 s)) ≤ (9223372036854775807 : Nat)))) ∧ (Φ (AV.v (Value.tuple #[(Value.agg #[(Value.int IntKind.i64 (0 : Int)), (Value.int IntKind.i64 (0 : Int)), (Value.int IntKind.i64 (0 : Int)), (Value.int IntKind.i64 (0 : Int)), (Value.int IntKind.i64 (0 : Int)), (Value.int IntKind.i64 (0 : Int)), (Value.int IntKind.i64 (0 : Int)), (Value.int IntKind.i64 (0 : Int)), (Value.int IntKind.i64 (0 : Int)), (Value.int IntKind.i64 (0 : Int)), (Value.int IntKind.i64 (0 : Int)), (Value.int IntKind.i64 (0 : Int)), (Value.int IntKind.i64 (0 : Int)), (Value.int IntKind.i64 (0 : Int)), (Value.int IntKind.i64 (0 : Int)), (Value.int IntKind.i64 (0 : Int)), (Value.int IntKind.i64 (0 : Int)), (Value.int IntKind.i64 (0 : Int)), (Value.int IntKind.i64 (0 : Int)), (Value.int IntKind.i64 (0 : Int)), (Value.int IntKind.i64 (0 : Int)), (Value.int IntKind.i64 (0 : Int)), (Value.int IntKind.i64 (0 : Int))]), (Value.int IntKind.i64 (2 : Int))]))))) else (some ((cdb (cdb True (decide ((ByteArray.size s) ≤ (100000 : Nat)))) (decide ((ByteArray.size ((S).2 s)) ≤ (9223372036854775807 : Nat)))) ∧ (Φ (AV.v (Value.tuple #[(Value.agg #[(Value.int IntKind.i64 ((S).1 s)), (Value.int IntKind.i64 (0 : Int)), (Value.int IntKind.i64 (0 : Int)), (Value.int IntKind.i64 (0 : Int)), (Value.int IntKind.i64 (0 : Int)), (Value.int IntKind.i64 (0 : Int)), (Value.int IntKind.i64 (0 : Int)), (Value.int IntKind.i64 ((S).6 ((S).2 s) (0 : Nat))), (Value.int IntKind.i64 ((S).6 ((S).2 s) (1 : Nat))), (Value.int IntKind.i64 ((S).6 ((S).2 s) (2 : Nat))), (Value.int IntKind.i64 ((S).6 ((S).2 s) (3 : Nat))), (Value.int IntKind.i64 ((S).6 ((S).2 s) (4 : Nat))), (Value.int IntKind.i64 ((S).6 ((S).2 s) (5 : Nat))), (Value.int IntKind.i64 ((S).6 ((S).2 s) (6 : Nat))), (Value.int IntKind.i64 (0 : Int)), (Value.int IntKind.i64 (0 : Int)), (Value.int IntKind.i64 (0 : Int)), (Value.int IntKind.i64 (0 : Int)), (Value.int IntKind.i64 (0 : Int)), (Value.int IntKind.i64 (0 : Int)), (Value.int IntKind.i64 (0 : Int)), (Value.int IntKind.i64 (0 : Int)), (Value.int IntKind.i64 (0 : Int))]), (Value.int IntKind.i64 (0 : Int))])))))) else (bif (((S).9 ((S).2 s)) != (0 : Int)) then (some ((cdb (cdb True (decide ((ByteArray.size s) ≤ (100000 : Nat)))) (decide ((ByteArray.size ((S).2 s)) ≤ (9223372036854775807 : Nat)))) ∧ (Φ (AV.v (Value.tuple #[(Value.agg #[(Value.int IntKind.i64 (0 : Int)), (Value.int IntKind.i64 (0 : Int)), (Value.int IntKind.i64 (0 : Int)), (Value.int IntKind.i64 (0 : Int)), (Value.int IntKind.i64 (0 : Int)), (Value.int IntKind.i64 (0 : Int)), (Value.int IntKind.i64 (0 : Int)), (Value.int IntKind.i64 (0 : Int)), (Value.int IntKind.i64 (0 : Int)), (Value.int IntKind.i64 (0 : Int)), (Value.int IntKind.i64 (0 : Int)), (Value.int IntKind.i64 (0 : Int)), (Value.int IntKind.i64 (0 : Int)), (Value.int IntKind.i64 (0 : Int)), (Value.int IntKind.i64 (0 : Int)), (Value.int IntKind.i64 (0 : Int)), (Value.int IntKind.i64 (0 : Int)), (Value.int IntKind.i64 (0 : Int)), (Value.int IntKind.i64 (0 : Int)), (Value.int IntKind.i64 (0 : Int)), (Value.int IntKind.i64 (0 : Int)), (Value.int IntKind.i64 (0 : Int)), (Value.int IntKind.i64 (0 : Int))]), (Value.int IntKind.i64 (2 : Int))]))))) else (some ((cdb (cdb True (decide ((ByteArray.size s) ≤ (100000 : Nat)))) (decide ((ByteArray.size ((S).2 s)) ≤ (9223372036854775807 : Nat)))) ∧ (Φ (AV.v (Value.tuple #[(Value.agg #[(Value.int IntKind.i64 ((S).1 s)), (Value.int IntKind.i64 (0 : Int)), (Value.int IntKind.i64 (0 : Int)), (Value.int IntKind.i64 (0 : Int)), (Value.int IntKind.i64 (0 : Int)), (Value.int IntKind.i64 (0 : Int)), (Value.int IntKind.i64 (0 : Int)), (Value.int IntKind.i64 (0 : Int)), (Value.int IntKind.i64 (0 : Int)), (Value.int IntKind.i64 (0 : Int)), (Value.int IntKind.i64 (0 : Int)), (Value.int IntKind.i64 (0 : Int)), (Value.int IntKind.i64 (0 : Int)), (Value.int IntKind.i64 (0 : Int)), (Value.int IntKind.i64 ((S).8 ((S).2 s) (0 : Nat))), (Value.int IntKind.i64 ((S).8 ((S).2 s) (1 : Nat))), (Value.int IntKind.i64 ((S).8 ((S).2 s) (2 : Nat))), (Value.int IntKind.i64 ((S).8 ((S).2 s) (3 : Nat))), (Value.int IntKind.i64 ((S).8 ((S).2 s) (4 : Nat))), (Value.int IntKind.i64 ((S).8 ((S).2 s) (5 : Nat))), (Value.int IntKind.i64 ((S).8 ((S).2 s) (6 : Nat))), (Value.int IntKind.i64 ((S).8 ((S).2 s) (7 : Nat))), (Value.int IntKind.i64 ((S).8 ((S).2 s) (8 : Nat)))]), (Value.int IntKind.i64 (0 : Int))]))))))))) := by kernel_rfl
end Go.Proofs.YtlonpmcgejdkkaaGreatDoor.AE
