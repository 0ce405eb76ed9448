/-
  The laws DecLists and DecBack of layer 5: the calls come to true.
-/
import Derived.Test.YtjnonfcemicmoaaDoorAEDecP
import Derived.Lib.AtoiAllCases
import Derived.Test.YtjnonfcemicmoaaDoorAEStrs
import Derived.Test.YtjnonfcemicmoaaDoorAETr
import Derived.MakeChecks
import Derived.Lib.LaidTab
import Derived.Test.YtjnonfcemicmoaaDoorHand
import Derived.Test.YtjnonfcemicmoaaDoorAEIn
namespace Go.Proofs.YtjnonfcemicmoaaDoor.AE
open Go.RowKit
def ro05 (tS : TypeId) (pS : Value) (tR : TypeId) (pR : Value) : Nat → Option (List Value) := fun b => match b with
  | 3 => some (Lib.pow10Tab.map fun z => Value.int .u64 z)
  | 0 => some ([48, 49, 50, 51, 52, 53, 54, 55, 56, 57, 97, 98, 99, 100, 101, 102].map fun (n : Int) => .int .u8 n)
  | 1 => some [.iface tS pS]
  | 2 => some [.iface tR pR]
  | _ => none
section
variable {tS : TypeId} {pS : Value} {tR : TypeId} {pR : Value} {W : World}
theorem ro_tab (h : Ro (ro05 tS pS tR pR) (G0 W) W) : Lib.TabIs Tryd.prog W "internal/strconv.uint64pow10" .u64 Lib.pow10Tab ∧ 3 < W.heap.size := by
  obtain ⟨h1, _, t, h3⟩ := h 3 _ rfl
  refine ⟨?_, ?_⟩
  · unfold Lib.TabIs World.var?
    rw [show Tryd.prog.globalNamed "internal/strconv.uint64pow10" = some 3 by kernel_rfl]
    simp [h3]
  · by_cases hlt : 3 < W.heap.size
    · exact hlt
    · rw [Array.getElem?_eq_none (by omega)] at h3; cases h3
def textP : List Value → Option (Value × Bool) := fun us => match us with
  | [.int .i64 n] => some (.string ⟨(Lib.itoa n).toArray⟩, decide (-9223372036854775808 ≤ n ∧ n ≤ 9223372036854775807))
  | _ => none
theorem text_ok : ∀ args H r H', pure? textP args H = some (r, H') → HSound1 Tryd.prog (ro05 tS pS tR pR) 11 args H r H' := by
  refine pure_of_calls (has_fn (by kernel_rfl)) fun us c h W hR => ?_
  unfold textP at h
  split at h
  · simp only [Option.some.injEq, Prod.mk.injEq, decide_eq_true_eq] at h
    obtain ⟨rfl, h0, h1⟩ := h
    exact dtext _ h0 h1 W (ro_tab hR).1
  · cases h
def dpX (s : ByteArray) : Int := match Lib.atoiAll s.data.toList with
  | .ok v => if Lib.itoa v = s.data.toList then v else 0
  | _ => 0
def dpY (s : ByteArray) : Int := match Lib.atoiAll s.data.toList with
  | .ok v => if Lib.itoa v = s.data.toList then 0 else 2
  | _ => 2
def parseP : List Value → Option (Value × Bool) := fun us => match us with
  | [.string s] => some (.tuple #[.int .i64 (dpX s), .int .i64 (dpY s)], decide (s.size ≤ 100000))
  | _ => none
theorem parse_ok : ∀ args H r H', pure? parseP args H = some (r, H') → HSound1 Tryd.prog (ro05 tS pS tR pR) 7 args H r H' := by
  refine pure_of_calls (has_fn (by kernel_rfl)) fun us c h W hR => ?_
  unfold parseP at h
  split at h
  · rename_i s
    simp only [Option.some.injEq, Prod.mk.injEq, decide_eq_true_eq] at h
    obtain ⟨rfl, hs⟩ := h
    obtain ⟨hT, hB⟩ := ro_tab hR
    have hS := ((hR 1 _ rfl).1 0 _ rfl).2
    have hE := ((hR 2 _ rfl).1 0 _ rfl).2
    unfold dpX dpY
    rcases ha : Lib.atoiAll s.data.toList with v | _ | _
    · exact dparse_ok s (by omega) v ha W hT hB _ _ (fun h => by simp [h]) (fun h => by simp [h])
    · refine dparse_no s W 0 ((Tryd.strconv_Atoi_syntax s (by omega) ha _ W hS (.inr ⟨_, _, rfl⟩)).mono ?_)
      rintro e w' ⟨N, he, _, _, hb⟩
      exact ⟨N, _, he, hb⟩
    · refine dparse_no s W (Lib.atoiSat s.data.toList) ((Tryd.strconv_Atoi_range s (by omega) ha _ W hE (.inr ⟨_, _, rfl⟩)).mono ?_)
      rintro e w' ⟨N, he, _, _, hb⟩
      exact ⟨N, _, he, hb⟩
  · cases h
end
end Go.Proofs.YtjnonfcemicmoaaDoor.AE
namespace Go.Proofs.YtjnonfcemicmoaaDoor.AE
open Go.RowKit
theorem t_digit (tS tR : TypeId) (pS pR : Value) (c : Int) (Φ : AV → Prop) : callK (ro05 tS pS tR pR) (fun _ => false) (fun _ => none) 6 21 [.v (.int .u8 c)] (hp [] []) (fun r h => some (h.cd ∧ Φ r)) =
    (bif ((48 : Int) == c) then (some (True ∧ (Φ (AV.v (Value.tuple #[(Value.int IntKind.i64 (0 : Int)), (Value.bool true)]))))) else (bif ((49 : Int) == c) then (some (True ∧ (Φ (AV.v (Value.tuple #[(Value.int IntKind.i64 (1 : Int)), (Value.bool true)]))))) else (bif ((50 : Int) == c) then (some (True ∧ (Φ (AV.v (Value.tuple #[(Value.int IntKind.i64 (2 : Int)), (Value.bool true)]))))) else (bif ((51 : Int) == c) then (some (True ∧ (Φ (AV.v (Value.tuple #[(Value.int IntKind.i64 (3 : Int)), (Value.bool true)]))))) else (bif ((52 : Int) == c) then (some (True ∧ (Φ (AV.v (Value.tuple #[(Value.int IntKind.i64 (4 : Int)), (Value.bool true)]))))) else (bif ((53 : Int) == c) then (some (True ∧ (Φ (AV.v (Value.tuple #[(Value.int IntKind.i64 (5 : Int)), (Value.bool true)]))))) else (bif ((54 : Int) == c) then (some (True ∧ (Φ (AV.v (Value.tuple #[(Value.int IntKind.i64 (6 : Int)), (Value.bool true)]))))) else (bif ((55 : Int) == c) then (some (True ∧ (Φ (AV.v (Value.tuple #[(Value.int IntKind.i64 (7 : Int)), (Value.bool true)]))))) else (bif ((56 : Int) == c) then (some (True ∧ (Φ (AV.v (Value.tuple #[(Value.int IntKind.i64 (8 : Int)), (Value.bool true)]))))) else (bif ((57 : Int) == c) then (some (True ∧ (Φ (AV.v (Value.tuple #[(Value.int IntKind.i64 (9 : Int)), (Value.bool true)]))))) else (bif ((97 : Int) == c) then (some (True ∧ (Φ (AV.v (Value.tuple #[(Value.int IntKind.i64 (10 : Int)), (Value.bool true)]))))) else (bif ((98 : Int) == c) then (some (True ∧ (Φ (AV.v (Value.tuple #[(Value.int IntKind.i64 (11 : Int)), (Value.bool true)]))))) else (bif ((99 : Int) == c) then (some (True ∧ (Φ (AV.v (Value.tuple #[(Value.int IntKind.i64 (12 : Int)), (Value.bool true)]))))) else (bif ((100 : Int) == c) then (some (True ∧ (Φ (AV.v (Value.tuple #[(Value.int IntKind.i64 (13 : Int)), (Value.bool true)]))))) else (bif ((101 : Int) == c) then (some (True ∧ (Φ (AV.v (Value.tuple #[(Value.int IntKind.i64 (14 : Int)), (Value.bool true)]))))) else (bif ((102 : Int) == c) then (some (True ∧ (Φ (AV.v (Value.tuple #[(Value.int IntKind.i64 (15 : Int)), (Value.bool true)]))))) else (some (True ∧ (Φ (AV.v (Value.tuple #[(Value.int IntKind.i64 (0 : Int)), (Value.bool false)]))))))))))))))))))))) := by kernel_rfl
end Go.Proofs.YtjnonfcemicmoaaDoor.AE
namespace Go.Proofs.YtjnonfcemicmoaaDoor.AE
open Go.RowKit
def hv (c : Int) : Int := if 48 ≤ c ∧ c ≤ 57 then c - 48 else if 97 ≤ c ∧ c ≤ 102 then c - 87 else 0
def hok (c : Int) : Bool := decide ((48 ≤ c ∧ c ≤ 57) ∨ (97 ≤ c ∧ c ≤ 102))
def valP : List Value → Option (Value × Bool) := fun us => match us with
  | [.int .u8 c] => some (.tuple #[.int .i64 (hv c), .bool (hok c)], true)
  | _ => none
theorem val_fs (tS tR : TypeId) (pS pR : Value) (c : Int) : Fs Tryd.prog (ro05 tS pS tR pR) 21 [.v (.int .u8 c)] (hp [] []) fun r _ => r = .v (.tuple #[.int .i64 (hv c), .bool (hok c)]) := by
  refine Fs.of_call (known_none _) (t_digit tS tR pS pR c fun r => r = .v (.tuple #[.int .i64 (hv c), .bool (hok c)])) ?_
  unfold hv hok
  repeat' (with_reducible refine holds_bif ?_ ?_ <;> intro h)
  any_goals (have h := eq_of_beq h; subst h; exact ⟨trivial, rfl⟩)
  simp only [beq_eq_false_iff_ne, ne_eq] at *
  refine ⟨trivial, ?_⟩
  have e : ¬ ((48 ≤ c ∧ c ≤ 57) ∨ (97 ≤ c ∧ c ≤ 102)) := by omega
  rw [if_neg (by omega), if_neg (by omega), decide_eq_false e]
theorem val_ok {tS tR : TypeId} {pS pR : Value} : ∀ args H r H', pure? valP args H = some (r, H') → HSound1 Tryd.prog (ro05 tS pS tR pR) 21 args H r H' := by
  refine pure_ok (fun us c hs => ?_) (has_fn (by kernel_rfl))
  unfold valP at hs
  split at hs
  · simp only [Option.some.injEq, Prod.mk.injEq, and_true] at hs
    subst hs
    exact val_fs _ _ _ _ _
  · cases hs
noncomputable def prH : FuncId → Option (List AV → AH → Ans) := fun g => match g with
  | 21 => some (pure? valP)
  | _ => none
theorem knownH {tS tR : TypeId} {pS pR : Value} : Known (ro05 tS pS tR pR) prH := by
  intro g p h
  unfold prH at h
  split at h
  · cases h; exact val_ok
  · cases h
def hxA (x i : Int) (s : ByteArray) : List AV := [.v (.int .u64 x), .dead, .dead, .v (.string s), .v (.int .i64 i)] ++ List.replicate 20 .dead
def phA (s : ByteArray) (n i : Int) : List AV := [.v (.string s), .dead, .dead, .dead, .v (.int .u64 n)] ++ List.replicate 6 .dead ++ [.v (.int .i64 i)] ++ List.replicate 18 .dead
def rhA (s : ByteArray) (n i : Int) : List AV := [.v (.string s), .dead, .dead, .dead, .v (.int .u64 n), .v (.int .i64 i)] ++ List.replicate 28 .dead
def riA (s : ByteArray) (n i d k : Int) : List AV := [.v (.string s), .dead, .dead, .dead, .v (.int .u64 n), .v (.int .i64 i), .v (.int .i64 d), .v (.int .i64 k)] ++ List.replicate 26 .dead
theorem hx_pre (x : Int) (R : Exit → List AV → AH → Prop) : codeL nro (fun _ => false) (fun _ => none) 5 ((flatten (bodyOf 14)).take 3) ([.v (.int .u64 x)] ++ List.replicate 24 (.v undef)) (hp [] []) (kp [0, 3, 4] R) =
    (some (True ∧ (R Exit.normal [(AV.v (Value.int IntKind.u64 x)), AV.dead, AV.dead, (AV.v (Value.string (ByteArray.mk (Array.mk (@List.nil UInt8))))), (AV.v (Value.int IntKind.i64 (0 : Int))), AV.dead, AV.dead, AV.dead, AV.dead, AV.dead, AV.dead, AV.dead, AV.dead, AV.dead, AV.dead, AV.dead, AV.dead, AV.dead, AV.dead, AV.dead, AV.dead, AV.dead, AV.dead, AV.dead, AV.dead] (AH.mk (@List.nil (Prod Go.TypeId (List AV))) (@List.nil Nat) (0 : Nat) (0 : Nat) true (@List.nil (Prod Nat Bool)) True)))) := by kernel_rfl
theorem hx_in (x i : Int) (s : ByteArray) (R : Exit → List AV → AH → Prop) : code nro (fun _ => false) (fun _ => none) 5 (sub (bodyOf 14) [1, 1, 0, 1, 0, 0]) (hxA x i s) (hp [] []) (kp [0, 3, 4] R) =
    (bif (decide (i < (16 : Int))) then (some ((cdb (cdb True (decide (((0 : Int) ≤ (IntKind.wrap IntKind.i64 (IntKind.wrap IntKind.u64 (x - (IntKind.wrap IntKind.u64 ((IntKind.wrap IntKind.u64 (Int.tdiv x (16 : Int))) * (16 : Int))))))) ∧ (((IntKind.wrap IntKind.i64 (IntKind.wrap IntKind.u64 (x - (IntKind.wrap IntKind.u64 ((IntKind.wrap IntKind.u64 (Int.tdiv x (16 : Int))) * (16 : Int)))))) ≤ (IntKind.wrap IntKind.i64 ((IntKind.wrap IntKind.i64 (IntKind.wrap IntKind.u64 (x - (IntKind.wrap IntKind.u64 ((IntKind.wrap IntKind.u64 (Int.tdiv x (16 : Int))) * (16 : Int)))))) + (1 : Int)))) ∧ ((IntKind.wrap IntKind.i64 ((IntKind.wrap IntKind.i64 (IntKind.wrap IntKind.u64 (x - (IntKind.wrap IntKind.u64 ((IntKind.wrap IntKind.u64 (Int.tdiv x (16 : Int))) * (16 : Int)))))) + (1 : Int))) ≤ (16 : Int)))))) (decide (((ByteArray.size (ByteArray.extract (ByteArray.mk #[(@OfNat.ofNat UInt8 (48 : Nat) (@UInt8.instOfNat 48)), (@OfNat.ofNat UInt8 (49 : Nat) (@UInt8.instOfNat 49)), (@OfNat.ofNat UInt8 (50 : Nat) (@UInt8.instOfNat 50)), (@OfNat.ofNat UInt8 (51 : Nat) (@UInt8.instOfNat 51)), (@OfNat.ofNat UInt8 (52 : Nat) (@UInt8.instOfNat 52)), (@OfNat.ofNat UInt8 (53 : Nat) (@UInt8.instOfNat 53)), (@OfNat.ofNat UInt8 (54 : Nat) (@UInt8.instOfNat 54)), (@OfNat.ofNat UInt8 (55 : Nat) (@UInt8.instOfNat 55)), (@OfNat.ofNat UInt8 (56 : Nat) (@UInt8.instOfNat 56)), (@OfNat.ofNat UInt8 (57 : Nat) (@UInt8.instOfNat 57)), (@OfNat.ofNat UInt8 (97 : Nat) (@UInt8.instOfNat 97)), (@OfNat.ofNat UInt8 (98 : Nat) (@UInt8.instOfNat 98)), (@OfNat.ofNat UInt8 (99 : Nat) (@UInt8.instOfNat 99)), (@OfNat.ofNat UInt8 (100 : Nat) (@UInt8.instOfNat 100)), (@OfNat.ofNat UInt8 (101 : Nat) (@UInt8.instOfNat 101)), (@OfNat.ofNat UInt8 (102 : Nat) (@UInt8.instOfNat 102))]) (Int.toNat (IntKind.wrap IntKind.i64 (IntKind.wrap IntKind.u64 (x - (IntKind.wrap IntKind.u64 ((IntKind.wrap IntKind.u64 (Int.tdiv x (16 : Int))) * (16 : Int))))))) (Int.toNat (IntKind.wrap IntKind.i64 ((IntKind.wrap IntKind.i64 (IntKind.wrap IntKind.u64 (x - (IntKind.wrap IntKind.u64 ((IntKind.wrap IntKind.u64 (Int.tdiv x (16 : Int))) * (16 : Int)))))) + (1 : Int)))))) + (ByteArray.size s)) ≤ (9223372036854775807 : Nat)))) ∧ (R Exit.normal [(AV.v (Value.int IntKind.u64 (IntKind.wrap IntKind.u64 (Int.tdiv x (16 : Int))))), AV.dead, AV.dead, (AV.v (Value.string ((ByteArray.extract (ByteArray.mk #[(@OfNat.ofNat UInt8 (48 : Nat) (@UInt8.instOfNat 48)), (@OfNat.ofNat UInt8 (49 : Nat) (@UInt8.instOfNat 49)), (@OfNat.ofNat UInt8 (50 : Nat) (@UInt8.instOfNat 50)), (@OfNat.ofNat UInt8 (51 : Nat) (@UInt8.instOfNat 51)), (@OfNat.ofNat UInt8 (52 : Nat) (@UInt8.instOfNat 52)), (@OfNat.ofNat UInt8 (53 : Nat) (@UInt8.instOfNat 53)), (@OfNat.ofNat UInt8 (54 : Nat) (@UInt8.instOfNat 54)), (@OfNat.ofNat UInt8 (55 : Nat) (@UInt8.instOfNat 55)), (@OfNat.ofNat UInt8 (56 : Nat) (@UInt8.instOfNat 56)), (@OfNat.ofNat UInt8 (57 : Nat) (@UInt8.instOfNat 57)), (@OfNat.ofNat UInt8 (97 : Nat) (@UInt8.instOfNat 97)), (@OfNat.ofNat UInt8 (98 : Nat) (@UInt8.instOfNat 98)), (@OfNat.ofNat UInt8 (99 : Nat) (@UInt8.instOfNat 99)), (@OfNat.ofNat UInt8 (100 : Nat) (@UInt8.instOfNat 100)), (@OfNat.ofNat UInt8 (101 : Nat) (@UInt8.instOfNat 101)), (@OfNat.ofNat UInt8 (102 : Nat) (@UInt8.instOfNat 102))]) (Int.toNat (IntKind.wrap IntKind.i64 (IntKind.wrap IntKind.u64 (x - (IntKind.wrap IntKind.u64 ((IntKind.wrap IntKind.u64 (Int.tdiv x (16 : Int))) * (16 : Int))))))) (Int.toNat (IntKind.wrap IntKind.i64 ((IntKind.wrap IntKind.i64 (IntKind.wrap IntKind.u64 (x - (IntKind.wrap IntKind.u64 ((IntKind.wrap IntKind.u64 (Int.tdiv x (16 : Int))) * (16 : Int)))))) + (1 : Int))))) ++ s))), (AV.v (Value.int IntKind.i64 (IntKind.wrap IntKind.i64 (i + (1 : Int))))), AV.dead, AV.dead, AV.dead, AV.dead, AV.dead, AV.dead, AV.dead, AV.dead, AV.dead, AV.dead, AV.dead, AV.dead, AV.dead, AV.dead, AV.dead, AV.dead, AV.dead, AV.dead, AV.dead, AV.dead] (AH.mk (@List.nil (Prod Go.TypeId (List AV))) (@List.nil Nat) (0 : Nat) (0 : Nat) true (@List.nil (Prod Nat Bool)) True)))) else (some (True ∧ (R (Exit.exit (0 : Nat)) [(AV.v (Value.int IntKind.u64 x)), AV.dead, AV.dead, (AV.v (Value.string s)), (AV.v (Value.int IntKind.i64 i)), AV.dead, AV.dead, AV.dead, AV.dead, AV.dead, AV.dead, AV.dead, AV.dead, AV.dead, AV.dead, AV.dead, AV.dead, AV.dead, AV.dead, AV.dead, AV.dead, AV.dead, AV.dead, AV.dead, AV.dead] (AH.mk (@List.nil (Prod Go.TypeId (List AV))) (@List.nil Nat) (0 : Nat) (0 : Nat) true (@List.nil (Prod Nat Bool)) True))))) := by kernel_rfl
theorem hx_post (x i : Int) (s : ByteArray) (R : Exit → List AV → AH → Prop) : codeL nro (fun _ => false) (fun _ => none) 5 ((flatten (bodyOf 14)).drop 4) (hxA x i s) (hp [] []) (kp [2] R) =
    (some (True ∧ (R Exit.ret [AV.dead, AV.dead, (AV.v (Value.string s)), AV.dead, AV.dead, AV.dead, AV.dead, AV.dead, AV.dead, AV.dead, AV.dead, AV.dead, AV.dead, AV.dead, AV.dead, AV.dead, AV.dead, AV.dead, AV.dead, AV.dead, AV.dead, AV.dead, AV.dead, AV.dead, AV.dead] (AH.mk (@List.nil (Prod Go.TypeId (List AV))) (@List.nil Nat) (0 : Nat) (0 : Nat) true (@List.nil (Prod Nat Bool)) True)))) := by kernel_rfl
theorem ph_pre (tS tR : TypeId) (pS pR : Value) (s : ByteArray) (R : Exit → List AV → AH → Prop) : codeL (ro05 tS pS tR pR) (fun _ => false) prH 5 ((flatten (bodyOf 9)).take 5) ([.v (.string s)] ++ List.replicate 29 (.v undef)) (hp [] []) (kp [0, 2, 3, 4, 11] R) =
    (bif (((ByteArray.size s) : Int) != (16 : Int)) then (some (True ∧ (R Exit.ret [(AV.v (Value.string s)), AV.dead, (AV.v (Value.int IntKind.u64 (0 : Int))), (AV.v (Value.int IntKind.i64 (2 : Int))), (AV.v (Value.tuple (Array.mk (@List.nil Go.Value)))), AV.dead, AV.dead, AV.dead, AV.dead, AV.dead, AV.dead, (AV.v (Value.tuple (Array.mk (@List.nil Go.Value)))), AV.dead, AV.dead, AV.dead, AV.dead, AV.dead, AV.dead, AV.dead, AV.dead, AV.dead, AV.dead, AV.dead, AV.dead, AV.dead, AV.dead, AV.dead, AV.dead, AV.dead, AV.dead] (AH.mk (@List.nil (Prod Go.TypeId (List AV))) (@List.nil Nat) (0 : Nat) (0 : Nat) true (@List.nil (Prod Nat Bool)) True)))) else (some (True ∧ (R Exit.normal [(AV.v (Value.string s)), AV.dead, (AV.v (Value.int IntKind.u64 (0 : Int))), (AV.v (Value.int IntKind.i64 (0 : Int))), (AV.v (Value.int IntKind.u64 (0 : Int))), AV.dead, AV.dead, AV.dead, AV.dead, AV.dead, AV.dead, (AV.v (Value.int IntKind.i64 (0 : Int))), AV.dead, AV.dead, AV.dead, AV.dead, AV.dead, AV.dead, AV.dead, AV.dead, AV.dead, AV.dead, AV.dead, AV.dead, AV.dead, AV.dead, AV.dead, AV.dead, AV.dead, AV.dead] (AH.mk (@List.nil (Prod Go.TypeId (List AV))) (@List.nil Nat) (0 : Nat) (0 : Nat) true (@List.nil (Prod Nat Bool)) True))))) := by kernel_rfl
theorem ph_in (tS tR : TypeId) (pS pR : Value) (s : ByteArray) (n i : Int) (R : Exit → List AV → AH → Prop) : code (ro05 tS pS tR pR) (fun _ => false) prH 5 (sub (bodyOf 9) [1, 1, 1, 0, 1, 0, 0]) (phA s n i) (hp [] []) (kp [0, 2, 3, 4, 11] R) =
    (bif (decide (i < (16 : Int))) then (bif (!(hok ((UInt8.toNat (Array.getD (ByteArray.data s) (Int.toNat i) (@OfNat.ofNat UInt8 (0 : Nat) (@UInt8.instOfNat 0)))) : Int))) then (some ((cdb True (decide (((0 : Int) ≤ i) ∧ ((Int.toNat i) < (ByteArray.size s))))) ∧ (R Exit.ret [(AV.v (Value.string s)), AV.dead, (AV.v (Value.int IntKind.u64 (0 : Int))), (AV.v (Value.int IntKind.i64 (2 : Int))), (AV.v (Value.int IntKind.u64 n)), AV.dead, AV.dead, AV.dead, AV.dead, AV.dead, AV.dead, (AV.v (Value.int IntKind.i64 i)), AV.dead, AV.dead, AV.dead, AV.dead, AV.dead, AV.dead, AV.dead, AV.dead, AV.dead, AV.dead, AV.dead, AV.dead, AV.dead, AV.dead, AV.dead, AV.dead, AV.dead, AV.dead] (AH.mk (@List.nil (Prod Go.TypeId (List AV))) (@List.nil Nat) (0 : Nat) (0 : Nat) true (@List.nil (Prod Nat Bool)) True)))) else (some ((cdb True (decide (((0 : Int) ≤ i) ∧ ((Int.toNat i) < (ByteArray.size s))))) ∧ (R Exit.normal [(AV.v (Value.string s)), AV.dead, AV.dead, AV.dead, (AV.v (Value.int IntKind.u64 (IntKind.wrap IntKind.u64 (((@BitVec.toFin (IntKind.bits IntKind.u64) ((BitVec.ofInt (IntKind.bits IntKind.u64) (IntKind.wrap IntKind.u64 (n * ((2 : Int) ^ (@Min.min Nat instMinNat (Int.toNat (4 : Int)) (IntKind.bits IntKind.u64)))))) ||| (BitVec.ofInt (IntKind.bits IntKind.u64) (IntKind.wrap IntKind.u64 (hv ((UInt8.toNat (Array.getD (ByteArray.data s) (Int.toNat i) (0 : UInt8))) : Int))))))).1 : Int)))), AV.dead, AV.dead, AV.dead, AV.dead, AV.dead, AV.dead, (AV.v (Value.int IntKind.i64 (IntKind.wrap IntKind.i64 (i + (1 : Int))))), AV.dead, AV.dead, AV.dead, AV.dead, AV.dead, AV.dead, AV.dead, AV.dead, AV.dead, AV.dead, AV.dead, AV.dead, AV.dead, AV.dead, AV.dead, AV.dead, AV.dead, AV.dead] (AH.mk (@List.nil (Prod Go.TypeId (List AV))) (@List.nil Nat) (0 : Nat) (0 : Nat) true (@List.nil (Prod Nat Bool)) True))))) else (some (True ∧ (R (Exit.exit (0 : Nat)) [(AV.v (Value.string s)), AV.dead, AV.dead, AV.dead, (AV.v (Value.int IntKind.u64 n)), AV.dead, AV.dead, AV.dead, AV.dead, AV.dead, AV.dead, (AV.v (Value.int IntKind.i64 i)), AV.dead, AV.dead, AV.dead, AV.dead, AV.dead, AV.dead, AV.dead, AV.dead, AV.dead, AV.dead, AV.dead, AV.dead, AV.dead, AV.dead, AV.dead, AV.dead, AV.dead, AV.dead] (AH.mk (@List.nil (Prod Go.TypeId (List AV))) (@List.nil Nat) (0 : Nat) (0 : Nat) true (@List.nil (Prod Nat Bool)) True))))) := by kernel_rfl
theorem ph_post (tS tR : TypeId) (pS pR : Value) (s : ByteArray) (n i : Int) (R : Exit → List AV → AH → Prop) : codeL (ro05 tS pS tR pR) (fun _ => false) prH 5 ((flatten (bodyOf 9)).drop 6) (phA s n i) (hp [] []) (kp [2, 3] R) =
    (some (True ∧ (R Exit.ret [AV.dead, AV.dead, (AV.v (Value.int IntKind.u64 n)), (AV.v (Value.int IntKind.i64 (0 : Int))), AV.dead, AV.dead, AV.dead, AV.dead, AV.dead, AV.dead, AV.dead, AV.dead, AV.dead, AV.dead, AV.dead, AV.dead, AV.dead, AV.dead, AV.dead, AV.dead, AV.dead, AV.dead, AV.dead, AV.dead, AV.dead, AV.dead, AV.dead, AV.dead, AV.dead, AV.dead] (AH.mk (@List.nil (Prod Go.TypeId (List AV))) (@List.nil Nat) (0 : Nat) (0 : Nat) true (@List.nil (Prod Nat Bool)) True)))) := by kernel_rfl
theorem rh_pre (s : ByteArray) (R : Exit → List AV → AH → Prop) : codeL nro (fun _ => false) (fun _ => none) 5 ((flatten (bodyOf 10)).take 5) ([.v (.string s)] ++ List.replicate 33 (.v undef)) (hp [] []) (kp [0, 2, 3, 4, 5] R) =
    (bif (((ByteArray.size s) : Int) != (16 : Int)) then (some (True ∧ (R Exit.ret [(AV.v (Value.string s)), AV.dead, (AV.v (Value.int IntKind.u64 (0 : Int))), (AV.v (Value.int IntKind.i64 (2 : Int))), (AV.v (Value.tuple (Array.mk (@List.nil Go.Value)))), (AV.v (Value.tuple (Array.mk (@List.nil Go.Value)))), AV.dead, AV.dead, AV.dead, AV.dead, AV.dead, AV.dead, AV.dead, AV.dead, AV.dead, AV.dead, AV.dead, AV.dead, AV.dead, AV.dead, AV.dead, AV.dead, AV.dead, AV.dead, AV.dead, AV.dead, AV.dead, AV.dead, AV.dead, AV.dead, AV.dead, AV.dead, AV.dead, AV.dead] (AH.mk (@List.nil (Prod Go.TypeId (List AV))) (@List.nil Nat) (0 : Nat) (0 : Nat) true (@List.nil (Prod Nat Bool)) True)))) else (some (True ∧ (R Exit.normal [(AV.v (Value.string s)), AV.dead, (AV.v (Value.int IntKind.u64 (0 : Int))), (AV.v (Value.int IntKind.i64 (0 : Int))), (AV.v (Value.int IntKind.u64 (0 : Int))), (AV.v (Value.int IntKind.i64 (0 : Int))), AV.dead, AV.dead, AV.dead, AV.dead, AV.dead, AV.dead, AV.dead, AV.dead, AV.dead, AV.dead, AV.dead, AV.dead, AV.dead, AV.dead, AV.dead, AV.dead, AV.dead, AV.dead, AV.dead, AV.dead, AV.dead, AV.dead, AV.dead, AV.dead, AV.dead, AV.dead, AV.dead, AV.dead] (AH.mk (@List.nil (Prod Go.TypeId (List AV))) (@List.nil Nat) (0 : Nat) (0 : Nat) true (@List.nil (Prod Nat Bool)) True))))) := by kernel_rfl
theorem rh_in0 (s : ByteArray) (n i : Int) (R : Exit → List AV → AH → Prop) : codeL nro (fun _ => false) (fun _ => none) 5 ((flatten (sub (bodyOf 10) [1, 1, 1, 0, 1, 0, 0])).take 2) (rhA s n i) (hp [] []) (kp [0, 4, 5] R) =
    (bif (decide (i < (16 : Int))) then (some (True ∧ (R Exit.normal [(AV.v (Value.string s)), AV.dead, AV.dead, AV.dead, (AV.v (Value.int IntKind.u64 n)), (AV.v (Value.int IntKind.i64 i)), AV.dead, AV.dead, AV.dead, AV.dead, AV.dead, AV.dead, AV.dead, AV.dead, AV.dead, AV.dead, AV.dead, AV.dead, AV.dead, AV.dead, AV.dead, AV.dead, AV.dead, AV.dead, AV.dead, AV.dead, AV.dead, AV.dead, AV.dead, AV.dead, AV.dead, AV.dead, AV.dead, AV.dead] (AH.mk (@List.nil (Prod Go.TypeId (List AV))) (@List.nil Nat) (0 : Nat) (0 : Nat) true (@List.nil (Prod Nat Bool)) True)))) else (some (True ∧ (R (Exit.exit (0 : Nat)) [(AV.v (Value.string s)), AV.dead, AV.dead, AV.dead, (AV.v (Value.int IntKind.u64 n)), (AV.v (Value.int IntKind.i64 i)), AV.dead, AV.dead, AV.dead, AV.dead, AV.dead, AV.dead, AV.dead, AV.dead, AV.dead, AV.dead, AV.dead, AV.dead, AV.dead, AV.dead, AV.dead, AV.dead, AV.dead, AV.dead, AV.dead, AV.dead, AV.dead, AV.dead, AV.dead, AV.dead, AV.dead, AV.dead, AV.dead, AV.dead] (AH.mk (@List.nil (Prod Go.TypeId (List AV))) (@List.nil Nat) (0 : Nat) (0 : Nat) true (@List.nil (Prod Nat Bool)) True))))) := by kernel_rfl
theorem rh_in1 (s : ByteArray) (n i : Int) (R : Exit → List AV → AH → Prop) : codeL nro (fun _ => false) (fun _ => none) 5 ((flatten (sub (bodyOf 10) [1, 1, 1, 0, 1, 0, 0])).drop 3) (rhA s n i) (hp [] []) (kp [0, 4, 5] R) =
    (some (True ∧ (R Exit.normal [(AV.v (Value.string s)), AV.dead, AV.dead, AV.dead, (AV.v (Value.int IntKind.u64 n)), (AV.v (Value.int IntKind.i64 (IntKind.wrap IntKind.i64 (i + (1 : Int))))), AV.dead, AV.dead, AV.dead, AV.dead, AV.dead, AV.dead, AV.dead, AV.dead, AV.dead, AV.dead, AV.dead, AV.dead, AV.dead, AV.dead, AV.dead, AV.dead, AV.dead, AV.dead, AV.dead, AV.dead, AV.dead, AV.dead, AV.dead, AV.dead, AV.dead, AV.dead, AV.dead, AV.dead] (AH.mk (@List.nil (Prod Go.TypeId (List AV))) (@List.nil Nat) (0 : Nat) (0 : Nat) true (@List.nil (Prod Nat Bool)) True)))) := by kernel_rfl
theorem rh_b0 (s : ByteArray) (n i : Int) (R : Exit → List AV → AH → Prop) : codeL nro (fun _ => false) (fun _ => none) 5 ((flatten (sub (bodyOf 10) [1, 1, 1, 0, 1, 0, 0, 1, 0, 0])).take 2) (rhA s n i) (hp [] []) (kp [0, 4, 5, 6, 7] R) =
    (some (True ∧ (R Exit.normal [(AV.v (Value.string s)), AV.dead, AV.dead, AV.dead, (AV.v (Value.int IntKind.u64 n)), (AV.v (Value.int IntKind.i64 i)), (AV.v (Value.int IntKind.i64 (-(1 : Int)))), (AV.v (Value.int IntKind.i64 (0 : Int))), AV.dead, AV.dead, AV.dead, AV.dead, AV.dead, AV.dead, AV.dead, AV.dead, AV.dead, AV.dead, AV.dead, AV.dead, AV.dead, AV.dead, AV.dead, AV.dead, AV.dead, AV.dead, AV.dead, AV.dead, AV.dead, AV.dead, AV.dead, AV.dead, AV.dead, AV.dead] (AH.mk (@List.nil (Prod Go.TypeId (List AV))) (@List.nil Nat) (0 : Nat) (0 : Nat) true (@List.nil (Prod Nat Bool)) True)))) := by kernel_rfl
theorem rh_b1 (s : ByteArray) (n i d k : Int) (R : Exit → List AV → AH → Prop) : codeL nro (fun _ => false) (fun _ => none) 5 ((flatten (sub (bodyOf 10) [1, 1, 1, 0, 1, 0, 0, 1, 0, 0])).drop 3) (riA s n i d k) (hp [] []) (kp [0, 2, 3, 4, 5] R) =
    (bif (decide (d < (0 : Int))) then (some (True ∧ (R Exit.ret [(AV.v (Value.string s)), AV.dead, (AV.v (Value.int IntKind.u64 (0 : Int))), (AV.v (Value.int IntKind.i64 (2 : Int))), (AV.v (Value.int IntKind.u64 n)), (AV.v (Value.int IntKind.i64 i)), AV.dead, AV.dead, AV.dead, AV.dead, AV.dead, AV.dead, AV.dead, AV.dead, AV.dead, AV.dead, AV.dead, AV.dead, AV.dead, AV.dead, AV.dead, AV.dead, AV.dead, AV.dead, AV.dead, AV.dead, AV.dead, AV.dead, AV.dead, AV.dead, AV.dead, AV.dead, AV.dead, AV.dead] (AH.mk (@List.nil (Prod Go.TypeId (List AV))) (@List.nil Nat) (0 : Nat) (0 : Nat) true (@List.nil (Prod Nat Bool)) True)))) else (some (True ∧ (R Exit.normal [(AV.v (Value.string s)), AV.dead, AV.dead, AV.dead, (AV.v (Value.int IntKind.u64 (IntKind.wrap IntKind.u64 ((IntKind.wrap IntKind.u64 ((16 : Int) * n)) + (IntKind.wrap IntKind.u64 d))))), (AV.v (Value.int IntKind.i64 i)), AV.dead, AV.dead, AV.dead, AV.dead, AV.dead, AV.dead, AV.dead, AV.dead, AV.dead, AV.dead, AV.dead, AV.dead, AV.dead, AV.dead, AV.dead, AV.dead, AV.dead, AV.dead, AV.dead, AV.dead, AV.dead, AV.dead, AV.dead, AV.dead, AV.dead, AV.dead, AV.dead, AV.dead] (AH.mk (@List.nil (Prod Go.TypeId (List AV))) (@List.nil Nat) (0 : Nat) (0 : Nat) true (@List.nil (Prod Nat Bool)) True))))) := by kernel_rfl
theorem ri_in (s : ByteArray) (n i d k : Int) (R : Exit → List AV → AH → Prop) : code nro (fun _ => false) (fun _ => none) 5 (sub (bodyOf 10) [1, 1, 1, 0, 1, 0, 0, 1, 0, 0, 1, 0, 1, 0, 0]) (riA s n i d k) (hp [] []) (kp [0, 4, 5, 6, 7] R) =
    (bif (decide (k < (16 : Int))) then (bif (((UInt8.toNat (Array.getD #[(@OfNat.ofNat UInt8 (48 : Nat) (@UInt8.instOfNat 48)), (@OfNat.ofNat UInt8 (49 : Nat) (@UInt8.instOfNat 49)), (@OfNat.ofNat UInt8 (50 : Nat) (@UInt8.instOfNat 50)), (@OfNat.ofNat UInt8 (51 : Nat) (@UInt8.instOfNat 51)), (@OfNat.ofNat UInt8 (52 : Nat) (@UInt8.instOfNat 52)), (@OfNat.ofNat UInt8 (53 : Nat) (@UInt8.instOfNat 53)), (@OfNat.ofNat UInt8 (54 : Nat) (@UInt8.instOfNat 54)), (@OfNat.ofNat UInt8 (55 : Nat) (@UInt8.instOfNat 55)), (@OfNat.ofNat UInt8 (56 : Nat) (@UInt8.instOfNat 56)), (@OfNat.ofNat UInt8 (57 : Nat) (@UInt8.instOfNat 57)), (@OfNat.ofNat UInt8 (97 : Nat) (@UInt8.instOfNat 97)), (@OfNat.ofNat UInt8 (98 : Nat) (@UInt8.instOfNat 98)), (@OfNat.ofNat UInt8 (99 : Nat) (@UInt8.instOfNat 99)), (@OfNat.ofNat UInt8 (100 : Nat) (@UInt8.instOfNat 100)), (@OfNat.ofNat UInt8 (101 : Nat) (@UInt8.instOfNat 101)), (@OfNat.ofNat UInt8 (102 : Nat) (@UInt8.instOfNat 102))] (Int.toNat k) (@OfNat.ofNat UInt8 (0 : Nat) (@UInt8.instOfNat 0)))) : Int) == ((UInt8.toNat (Array.getD (ByteArray.data s) (Int.toNat i) (@OfNat.ofNat UInt8 (0 : Nat) (@UInt8.instOfNat 0)))) : Int)) then (some ((cdb (cdb True (decide (((0 : Int) ≤ k) ∧ ((Int.toNat k) < (16 : Nat))))) (decide (((0 : Int) ≤ i) ∧ ((Int.toNat i) < (ByteArray.size s))))) ∧ (R Exit.normal [(AV.v (Value.string s)), AV.dead, AV.dead, AV.dead, (AV.v (Value.int IntKind.u64 n)), (AV.v (Value.int IntKind.i64 i)), (AV.v (Value.int IntKind.i64 k)), (AV.v (Value.int IntKind.i64 (IntKind.wrap IntKind.i64 (k + (1 : Int))))), AV.dead, AV.dead, AV.dead, AV.dead, AV.dead, AV.dead, AV.dead, AV.dead, AV.dead, AV.dead, AV.dead, AV.dead, AV.dead, AV.dead, AV.dead, AV.dead, AV.dead, AV.dead, AV.dead, AV.dead, AV.dead, AV.dead, AV.dead, AV.dead, AV.dead, AV.dead] (AH.mk (@List.nil (Prod Go.TypeId (List AV))) (@List.nil Nat) (0 : Nat) (0 : Nat) true (@List.nil (Prod Nat Bool)) True)))) else (some ((cdb (cdb True (decide (((0 : Int) ≤ k) ∧ ((Int.toNat k) < (16 : Nat))))) (decide (((0 : Int) ≤ i) ∧ ((Int.toNat i) < (ByteArray.size s))))) ∧ (R Exit.normal [(AV.v (Value.string s)), AV.dead, AV.dead, AV.dead, (AV.v (Value.int IntKind.u64 n)), (AV.v (Value.int IntKind.i64 i)), (AV.v (Value.int IntKind.i64 d)), (AV.v (Value.int IntKind.i64 (IntKind.wrap IntKind.i64 (k + (1 : Int))))), AV.dead, AV.dead, AV.dead, AV.dead, AV.dead, AV.dead, AV.dead, AV.dead, AV.dead, AV.dead, AV.dead, AV.dead, AV.dead, AV.dead, AV.dead, AV.dead, AV.dead, AV.dead, AV.dead, AV.dead, AV.dead, AV.dead, AV.dead, AV.dead, AV.dead, AV.dead] (AH.mk (@List.nil (Prod Go.TypeId (List AV))) (@List.nil Nat) (0 : Nat) (0 : Nat) true (@List.nil (Prod Nat Bool)) True))))) else (some (True ∧ (R (Exit.exit (2 : Nat)) [(AV.v (Value.string s)), AV.dead, AV.dead, AV.dead, (AV.v (Value.int IntKind.u64 n)), (AV.v (Value.int IntKind.i64 i)), (AV.v (Value.int IntKind.i64 d)), (AV.v (Value.int IntKind.i64 k)), AV.dead, AV.dead, AV.dead, AV.dead, AV.dead, AV.dead, AV.dead, AV.dead, AV.dead, AV.dead, AV.dead, AV.dead, AV.dead, AV.dead, AV.dead, AV.dead, AV.dead, AV.dead, AV.dead, AV.dead, AV.dead, AV.dead, AV.dead, AV.dead, AV.dead, AV.dead] (AH.mk (@List.nil (Prod Go.TypeId (List AV))) (@List.nil Nat) (0 : Nat) (0 : Nat) true (@List.nil (Prod Nat Bool)) True))))) := by kernel_rfl
theorem rh_post (s : ByteArray) (n i : Int) (R : Exit → List AV → AH → Prop) : codeL nro (fun _ => false) (fun _ => none) 5 ((flatten (bodyOf 10)).drop 6) (rhA s n i) (hp [] []) (kp [2, 3] R) =
    (some (True ∧ (R Exit.ret [AV.dead, AV.dead, (AV.v (Value.int IntKind.u64 n)), (AV.v (Value.int IntKind.i64 (0 : Int))), AV.dead, AV.dead, AV.dead, AV.dead, AV.dead, AV.dead, AV.dead, AV.dead, AV.dead, AV.dead, AV.dead, AV.dead, AV.dead, AV.dead, AV.dead, AV.dead, AV.dead, AV.dead, AV.dead, AV.dead, AV.dead, AV.dead, AV.dead, AV.dead, AV.dead, AV.dead, AV.dead, AV.dead, AV.dead, AV.dead] (AH.mk (@List.nil (Prod Go.TypeId (List AV))) (@List.nil Nat) (0 : Nat) (0 : Nat) true (@List.nil (Prod Nat Bool)) True)))) := by kernel_rfl
end Go.Proofs.YtjnonfcemicmoaaDoor.AE
namespace Go.Proofs.YtjnonfcemicmoaaDoor.AE
open Go.RowKit
theorem t_awake (tS tR : TypeId) (pS pR : Value) (Φ : AV → Prop) : callK (ro05 tS pS tR pR) (fun _ => false) prC 14 6 [] (hp [] []) (fun r h => some (h.cd ∧ Φ r)) =
    (some (True ∧ (Φ (AV.v (Value.bool true))))) := by kernel_rfl
end Go.Proofs.YtjnonfcemicmoaaDoor.AE
namespace Go.Proofs.YtjnonfcemicmoaaDoor.AE
open Go.RowKit
def xA (n : Int) (s : ByteArray) (k : Int) : List AV := [.v (.int .i64 n), .dead, .dead, .v (.string s), .v (.int .i64 k)] ++ List.replicate 28 .dead
theorem x_pre (n : Int) (R : Exit → List AV → AH → Prop) : codeL nro (fun _ => false) (fun _ => none) 5 ((flatten (bodyOf 12)).take 4) ([.v (.int .i64 n)] ++ List.replicate 32 (.v undef)) (hp [] []) (kp [0, 2, 3, 4] R) =
    (bif (n == (0 : Int)) then (some (True ∧ (R Exit.ret [(AV.v (Value.int IntKind.i64 n)), AV.dead, (AV.v (Value.string (ByteArray.mk #[(@OfNat.ofNat UInt8 (48 : Nat) (@UInt8.instOfNat 48))]))), (AV.v (Value.tuple (Array.mk (@List.nil Go.Value)))), (AV.v (Value.tuple (Array.mk (@List.nil Go.Value)))), AV.dead, AV.dead, AV.dead, AV.dead, AV.dead, AV.dead, AV.dead, AV.dead, AV.dead, AV.dead, AV.dead, AV.dead, AV.dead, AV.dead, AV.dead, AV.dead, AV.dead, AV.dead, AV.dead, AV.dead, AV.dead, AV.dead, AV.dead, AV.dead, AV.dead, AV.dead, AV.dead, AV.dead] (AH.mk (@List.nil (Prod Go.TypeId (List AV))) (@List.nil Nat) (0 : Nat) (0 : Nat) true (@List.nil (Prod Nat Bool)) True)))) else (some (True ∧ (R Exit.normal [(AV.v (Value.int IntKind.i64 n)), AV.dead, (AV.v (Value.string (ByteArray.mk (Array.mk (@List.nil UInt8))))), (AV.v (Value.string (ByteArray.mk (Array.mk (@List.nil UInt8))))), (AV.v (Value.int IntKind.i64 n)), AV.dead, AV.dead, AV.dead, AV.dead, AV.dead, AV.dead, AV.dead, AV.dead, AV.dead, AV.dead, AV.dead, AV.dead, AV.dead, AV.dead, AV.dead, AV.dead, AV.dead, AV.dead, AV.dead, AV.dead, AV.dead, AV.dead, AV.dead, AV.dead, AV.dead, AV.dead, AV.dead, AV.dead] (AH.mk (@List.nil (Prod Go.TypeId (List AV))) (@List.nil Nat) (0 : Nat) (0 : Nat) true (@List.nil (Prod Nat Bool)) True))))) := by kernel_rfl
theorem x_in (n k : Int) (s : ByteArray) (R : Exit → List AV → AH → Prop) : code nro (fun _ => false) (fun _ => none) 5 (sub (bodyOf 12) [1, 1, 1, 0, 0, 0]) (xA n s k) (hp [] []) (kp [0, 3, 4] R) =
    (bif (k != (0 : Int)) then (bif (decide ((IntKind.wrap IntKind.i64 (k - (IntKind.wrap IntKind.i64 ((IntKind.wrap IntKind.i64 (Int.tdiv k (10 : Int))) * (10 : Int))))) < (0 : Int))) then (some ((cdb (cdb True (decide (((0 : Int) ≤ (IntKind.wrap IntKind.i64 ((0 : Int) - (IntKind.wrap IntKind.i64 (k - (IntKind.wrap IntKind.i64 ((IntKind.wrap IntKind.i64 (Int.tdiv k (10 : Int))) * (10 : Int)))))))) ∧ (((IntKind.wrap IntKind.i64 ((0 : Int) - (IntKind.wrap IntKind.i64 (k - (IntKind.wrap IntKind.i64 ((IntKind.wrap IntKind.i64 (Int.tdiv k (10 : Int))) * (10 : Int))))))) ≤ (IntKind.wrap IntKind.i64 ((IntKind.wrap IntKind.i64 ((0 : Int) - (IntKind.wrap IntKind.i64 (k - (IntKind.wrap IntKind.i64 ((IntKind.wrap IntKind.i64 (Int.tdiv k (10 : Int))) * (10 : Int))))))) + (1 : Int)))) ∧ ((IntKind.wrap IntKind.i64 ((IntKind.wrap IntKind.i64 ((0 : Int) - (IntKind.wrap IntKind.i64 (k - (IntKind.wrap IntKind.i64 ((IntKind.wrap IntKind.i64 (Int.tdiv k (10 : Int))) * (10 : Int))))))) + (1 : Int))) ≤ (10 : Int)))))) (decide (((ByteArray.size (ByteArray.extract (ByteArray.mk #[(@OfNat.ofNat UInt8 (48 : Nat) (@UInt8.instOfNat 48)), (@OfNat.ofNat UInt8 (49 : Nat) (@UInt8.instOfNat 49)), (@OfNat.ofNat UInt8 (50 : Nat) (@UInt8.instOfNat 50)), (@OfNat.ofNat UInt8 (51 : Nat) (@UInt8.instOfNat 51)), (@OfNat.ofNat UInt8 (52 : Nat) (@UInt8.instOfNat 52)), (@OfNat.ofNat UInt8 (53 : Nat) (@UInt8.instOfNat 53)), (@OfNat.ofNat UInt8 (54 : Nat) (@UInt8.instOfNat 54)), (@OfNat.ofNat UInt8 (55 : Nat) (@UInt8.instOfNat 55)), (@OfNat.ofNat UInt8 (56 : Nat) (@UInt8.instOfNat 56)), (@OfNat.ofNat UInt8 (57 : Nat) (@UInt8.instOfNat 57))]) (Int.toNat (IntKind.wrap IntKind.i64 ((0 : Int) - (IntKind.wrap IntKind.i64 (k - (IntKind.wrap IntKind.i64 ((IntKind.wrap IntKind.i64 (Int.tdiv k (10 : Int))) * (10 : Int)))))))) (Int.toNat (IntKind.wrap IntKind.i64 ((IntKind.wrap IntKind.i64 ((0 : Int) - (IntKind.wrap IntKind.i64 (k - (IntKind.wrap IntKind.i64 ((IntKind.wrap IntKind.i64 (Int.tdiv k (10 : Int))) * (10 : Int))))))) + (1 : Int)))))) + (ByteArray.size s)) ≤ (9223372036854775807 : Nat)))) ∧ (R Exit.normal [(AV.v (Value.int IntKind.i64 n)), AV.dead, AV.dead, (AV.v (Value.string ((ByteArray.extract (ByteArray.mk #[(@OfNat.ofNat UInt8 (48 : Nat) (@UInt8.instOfNat 48)), (@OfNat.ofNat UInt8 (49 : Nat) (@UInt8.instOfNat 49)), (@OfNat.ofNat UInt8 (50 : Nat) (@UInt8.instOfNat 50)), (@OfNat.ofNat UInt8 (51 : Nat) (@UInt8.instOfNat 51)), (@OfNat.ofNat UInt8 (52 : Nat) (@UInt8.instOfNat 52)), (@OfNat.ofNat UInt8 (53 : Nat) (@UInt8.instOfNat 53)), (@OfNat.ofNat UInt8 (54 : Nat) (@UInt8.instOfNat 54)), (@OfNat.ofNat UInt8 (55 : Nat) (@UInt8.instOfNat 55)), (@OfNat.ofNat UInt8 (56 : Nat) (@UInt8.instOfNat 56)), (@OfNat.ofNat UInt8 (57 : Nat) (@UInt8.instOfNat 57))]) (Int.toNat (IntKind.wrap IntKind.i64 ((0 : Int) - (IntKind.wrap IntKind.i64 (k - (IntKind.wrap IntKind.i64 ((IntKind.wrap IntKind.i64 (Int.tdiv k (10 : Int))) * (10 : Int)))))))) (Int.toNat (IntKind.wrap IntKind.i64 ((IntKind.wrap IntKind.i64 ((0 : Int) - (IntKind.wrap IntKind.i64 (k - (IntKind.wrap IntKind.i64 ((IntKind.wrap IntKind.i64 (Int.tdiv k (10 : Int))) * (10 : Int))))))) + (1 : Int))))) ++ s))), (AV.v (Value.int IntKind.i64 (IntKind.wrap IntKind.i64 (Int.tdiv k (10 : Int))))), AV.dead, AV.dead, AV.dead, AV.dead, AV.dead, AV.dead, AV.dead, AV.dead, AV.dead, AV.dead, AV.dead, AV.dead, AV.dead, AV.dead, AV.dead, AV.dead, AV.dead, AV.dead, AV.dead, AV.dead, AV.dead, AV.dead, AV.dead, AV.dead, AV.dead, AV.dead, AV.dead, AV.dead] (AH.mk (@List.nil (Prod Go.TypeId (List AV))) (@List.nil Nat) (0 : Nat) (0 : Nat) true (@List.nil (Prod Nat Bool)) True)))) else (some ((cdb (cdb True (decide (((0 : Int) ≤ (IntKind.wrap IntKind.i64 (k - (IntKind.wrap IntKind.i64 ((IntKind.wrap IntKind.i64 (Int.tdiv k (10 : Int))) * (10 : Int)))))) ∧ (((IntKind.wrap IntKind.i64 (k - (IntKind.wrap IntKind.i64 ((IntKind.wrap IntKind.i64 (Int.tdiv k (10 : Int))) * (10 : Int))))) ≤ (IntKind.wrap IntKind.i64 ((IntKind.wrap IntKind.i64 (k - (IntKind.wrap IntKind.i64 ((IntKind.wrap IntKind.i64 (Int.tdiv k (10 : Int))) * (10 : Int))))) + (1 : Int)))) ∧ ((IntKind.wrap IntKind.i64 ((IntKind.wrap IntKind.i64 (k - (IntKind.wrap IntKind.i64 ((IntKind.wrap IntKind.i64 (Int.tdiv k (10 : Int))) * (10 : Int))))) + (1 : Int))) ≤ (10 : Int)))))) (decide (((ByteArray.size (ByteArray.extract (ByteArray.mk #[(@OfNat.ofNat UInt8 (48 : Nat) (@UInt8.instOfNat 48)), (@OfNat.ofNat UInt8 (49 : Nat) (@UInt8.instOfNat 49)), (@OfNat.ofNat UInt8 (50 : Nat) (@UInt8.instOfNat 50)), (@OfNat.ofNat UInt8 (51 : Nat) (@UInt8.instOfNat 51)), (@OfNat.ofNat UInt8 (52 : Nat) (@UInt8.instOfNat 52)), (@OfNat.ofNat UInt8 (53 : Nat) (@UInt8.instOfNat 53)), (@OfNat.ofNat UInt8 (54 : Nat) (@UInt8.instOfNat 54)), (@OfNat.ofNat UInt8 (55 : Nat) (@UInt8.instOfNat 55)), (@OfNat.ofNat UInt8 (56 : Nat) (@UInt8.instOfNat 56)), (@OfNat.ofNat UInt8 (57 : Nat) (@UInt8.instOfNat 57))]) (Int.toNat (IntKind.wrap IntKind.i64 (k - (IntKind.wrap IntKind.i64 ((IntKind.wrap IntKind.i64 (Int.tdiv k (10 : Int))) * (10 : Int)))))) (Int.toNat (IntKind.wrap IntKind.i64 ((IntKind.wrap IntKind.i64 (k - (IntKind.wrap IntKind.i64 ((IntKind.wrap IntKind.i64 (Int.tdiv k (10 : Int))) * (10 : Int))))) + (1 : Int)))))) + (ByteArray.size s)) ≤ (9223372036854775807 : Nat)))) ∧ (R Exit.normal [(AV.v (Value.int IntKind.i64 n)), AV.dead, AV.dead, (AV.v (Value.string ((ByteArray.extract (ByteArray.mk #[(@OfNat.ofNat UInt8 (48 : Nat) (@UInt8.instOfNat 48)), (@OfNat.ofNat UInt8 (49 : Nat) (@UInt8.instOfNat 49)), (@OfNat.ofNat UInt8 (50 : Nat) (@UInt8.instOfNat 50)), (@OfNat.ofNat UInt8 (51 : Nat) (@UInt8.instOfNat 51)), (@OfNat.ofNat UInt8 (52 : Nat) (@UInt8.instOfNat 52)), (@OfNat.ofNat UInt8 (53 : Nat) (@UInt8.instOfNat 53)), (@OfNat.ofNat UInt8 (54 : Nat) (@UInt8.instOfNat 54)), (@OfNat.ofNat UInt8 (55 : Nat) (@UInt8.instOfNat 55)), (@OfNat.ofNat UInt8 (56 : Nat) (@UInt8.instOfNat 56)), (@OfNat.ofNat UInt8 (57 : Nat) (@UInt8.instOfNat 57))]) (Int.toNat (IntKind.wrap IntKind.i64 (k - (IntKind.wrap IntKind.i64 ((IntKind.wrap IntKind.i64 (Int.tdiv k (10 : Int))) * (10 : Int)))))) (Int.toNat (IntKind.wrap IntKind.i64 ((IntKind.wrap IntKind.i64 (k - (IntKind.wrap IntKind.i64 ((IntKind.wrap IntKind.i64 (Int.tdiv k (10 : Int))) * (10 : Int))))) + (1 : Int))))) ++ s))), (AV.v (Value.int IntKind.i64 (IntKind.wrap IntKind.i64 (Int.tdiv k (10 : Int))))), AV.dead, AV.dead, AV.dead, AV.dead, AV.dead, AV.dead, AV.dead, AV.dead, AV.dead, AV.dead, AV.dead, AV.dead, AV.dead, AV.dead, AV.dead, AV.dead, AV.dead, AV.dead, AV.dead, AV.dead, AV.dead, AV.dead, AV.dead, AV.dead, AV.dead, AV.dead, AV.dead, AV.dead] (AH.mk (@List.nil (Prod Go.TypeId (List AV))) (@List.nil Nat) (0 : Nat) (0 : Nat) true (@List.nil (Prod Nat Bool)) True))))) else (some (True ∧ (R (Exit.exit (0 : Nat)) [(AV.v (Value.int IntKind.i64 n)), AV.dead, AV.dead, (AV.v (Value.string s)), (AV.v (Value.int IntKind.i64 k)), AV.dead, AV.dead, AV.dead, AV.dead, AV.dead, AV.dead, AV.dead, AV.dead, AV.dead, AV.dead, AV.dead, AV.dead, AV.dead, AV.dead, AV.dead, AV.dead, AV.dead, AV.dead, AV.dead, AV.dead, AV.dead, AV.dead, AV.dead, AV.dead, AV.dead, AV.dead, AV.dead, AV.dead] (AH.mk (@List.nil (Prod Go.TypeId (List AV))) (@List.nil Nat) (0 : Nat) (0 : Nat) true (@List.nil (Prod Nat Bool)) True))))) := by kernel_rfl
theorem x_post (n k : Int) (s : ByteArray) (R : Exit → List AV → AH → Prop) : codeL nro (fun _ => false) (fun _ => none) 5 ((flatten (bodyOf 12)).drop 5) (xA n s k) (hp [] []) (kp [2] R) =
    (bif (decide (n < (0 : Int))) then (some ((cdb True (decide (((1 : Nat) + (ByteArray.size s)) ≤ (9223372036854775807 : Nat)))) ∧ (R Exit.ret [AV.dead, AV.dead, (AV.v (Value.string ((ByteArray.mk #[(@OfNat.ofNat UInt8 (45 : Nat) (@UInt8.instOfNat 45))]) ++ s))), AV.dead, AV.dead, AV.dead, AV.dead, AV.dead, AV.dead, AV.dead, AV.dead, AV.dead, AV.dead, AV.dead, AV.dead, AV.dead, AV.dead, AV.dead, AV.dead, AV.dead, AV.dead, AV.dead, AV.dead, AV.dead, AV.dead, AV.dead, AV.dead, AV.dead, AV.dead, AV.dead, AV.dead, AV.dead, AV.dead] (AH.mk (@List.nil (Prod Go.TypeId (List AV))) (@List.nil Nat) (0 : Nat) (0 : Nat) true (@List.nil (Prod Nat Bool)) True)))) else (some (True ∧ (R Exit.ret [AV.dead, AV.dead, (AV.v (Value.string s)), AV.dead, AV.dead, AV.dead, AV.dead, AV.dead, AV.dead, AV.dead, AV.dead, AV.dead, AV.dead, AV.dead, AV.dead, AV.dead, AV.dead, AV.dead, AV.dead, AV.dead, AV.dead, AV.dead, AV.dead, AV.dead, AV.dead, AV.dead, AV.dead, AV.dead, AV.dead, AV.dead, AV.dead, AV.dead, AV.dead] (AH.mk (@List.nil (Prod Go.TypeId (List AV))) (@List.nil Nat) (0 : Nat) (0 : Nat) true (@List.nil (Prod Nat Bool)) True))))) := by kernel_rfl
end Go.Proofs.YtjnonfcemicmoaaDoor.AE
namespace Go.Proofs.YtjnonfcemicmoaaDoor.AE
open Go.RowKit
theorem ne_nil {α : Type} {l : List α} (h : l.isEmpty = false) : l ≠ [] := by cases l <;> simp_all
theorem Fs.ro {g : FuncId} {args : List AV} {H : AH} {Φ : AV → AH → Prop} (h : Fs Tryd.prog nro g args H Φ) (ro : Nat → Option (List Value)) : Fs Tryd.prog ro g args H Φ :=
  fun G W cargs hI _ hA => h G W cargs hI (ro_none _ _) hA
theorem tdiv10 (k : Int) : Int.tdiv k 10 = if k < 0 then -((-k) / 10) else k / 10 := by
  split
  · have h : Int.tdiv k 10 = -(Int.tdiv (-k) 10) := by rw [Int.neg_tdiv, Int.neg_neg]
    rw [h, Int.tdiv_eq_ediv_of_nonneg (by omega)]
  · exact Int.tdiv_eq_ediv_of_nonneg (by omega)
def D10 (u : Nat) : List UInt8 := if u = 0 then [] else Lib.decDigits u
theorem D10_step (u : Nat) (h : u ≠ 0) : D10 u = D10 (u / 10) ++ [UInt8.ofNat (48 + u % 10)] := by
  unfold D10
  rw [if_neg h]
  by_cases h10 : u < 10
  · rw [Lib.decDigits, dif_pos h10, if_pos (by omega), Nat.mod_eq_of_lt h10]; rfl
  · rw [Lib.decDigits, dif_neg h10, if_neg (by omega)]
theorem dig : ∀ i, i < 10 → (ByteArray.mk #[48, 49, 50, 51, 52, 53, 54, 55, 56, 57]).extract i (i + 1) = ⟨#[UInt8.ofNat (48 + i)]⟩ := by decide +kernel
theorem sl_rt : slotsOf 12 = 33 := by kernel_rfl
theorem re_rt : resultsOf 12 = [.tmp 2] := by kernel_rfl
theorem fl_rt : (flatten (bodyOf 12)).drop 4 = .block 0 (.loop (sub (bodyOf 12) [1, 1, 1, 0, 0, 0])) :: (flatten (bodyOf 12)).drop 5 := by kernel_rfl
theorem D10_len (u : Nat) : ∀ m, u < 10 ^ m → (D10 u).length ≤ m := by
  induction u using Nat.strongRecOn with
  | _ u ih =>
    intro m hm
    by_cases h : u = 0
    · subst h; exact Nat.zero_le _
    · cases m with
      | zero => exact absurd hm (by simp; omega)
      | succ m =>
        rw [D10_step u h, List.length_append]
        have := ih (u / 10) (by omega) m (by rw [Nat.pow_succ] at hm; omega)
        show (D10 (u / 10)).length + 1 ≤ m + 1
        omega
theorem fs_rtext (n : Int) (h0 : -9223372036854775808 ≤ n) (h1 : n ≤ 9223372036854775807) : Fs Tryd.prog nro 12 [.v (.int .i64 n)] (hp [] []) fun r _ => r = .v (.string ⟨(Lib.itoa n).toArray⟩) := by
  refine Fs.of_body (has_fn (by kernel_rfl)) ?_
  rw [sl_rt, re_rt]
  refine Tr.of_flat (Trl.split 4 (Trl.of_code (known_none nro) (ne_nil (by kernel_rfl)) (x_pre n _) (holds_bif (fun h => ⟨trivial, .inr rfl, trivial, ?_⟩) fun h => ⟨trivial, ?_⟩)))
  · have hn : n = 0 := eq_of_beq h
    subst hn
    exact congrArg (fun x => AV.v (.string x)) (by decide +kernel)
  have hn0 : n ≠ 0 := ne_of_beq_false h
  show Trl _ _ ((flatten (bodyOf 12)).drop 4) _ _ _
  rw [fl_rt]
  refine Tr.keepL [0, 3, 4] rfl ?_
  let I : Nat → List AV → AH → Prop := fun m act H => ∃ k s, m = k.natAbs ∧ act = xA n s k ∧ k.natAbs ≤ n.natAbs ∧ D10 n.natAbs = D10 k.natAbs ++ s.data.toList ∧ H = hp [] []
  refine Tr.block (Tr.loop I ?_ (m := n.natAbs) ⟨n, _, rfl, rfl, Nat.le_refl _, by simp, rfl⟩)
  rintro m act H ⟨k, s, rfl, rfl, hkn, hD, rfl⟩
  have hlen : s.size ≤ 20 := by
    have h2 := D10_len n.natAbs 20 (by have : (10 : Nat) ^ 20 = 100000000000000000000 := by decide
                                       omega)
    rw [hD, List.length_append] at h2
    have h3 : s.data.toList.length = s.size := by rw [Array.length_toList]; rfl
    omega
  have hk0 : -9223372036854775808 ≤ k := by omega
  have hk1 : k ≤ 9223372036854775808 := by omega
  have ht := tdiv10 k
  obtain ⟨q, hq⟩ : ∃ q, q = Int.tdiv k 10 := ⟨_, rfl⟩
  obtain ⟨d, hd⟩ : ∃ d, d = k - q * 10 := ⟨_, rfl⟩
  have f1 : q.natAbs = k.natAbs / 10 ∧ d.natAbs = k.natAbs % 10 ∧ -9 ≤ d ∧ d ≤ 9 := by
    rw [← hq] at ht
    split at ht <;> omega
  have body := fun R => x_in n k s R
  have eA : IntKind.wrap .i64 (Int.tdiv k 10) = q := by rw [← hq, IntKind.wrap_i64]; omega
  have eB : IntKind.wrap .i64 (q * 10) = q * 10 := by rw [IntKind.wrap_i64]; omega
  have eC : IntKind.wrap .i64 (k - q * 10) = d := by rw [← hd, IntKind.wrap_i64]; omega
  have eD : IntKind.wrap .i64 (0 - d) = -d := by rw [IntKind.wrap_i64]; omega
  have eE : IntKind.wrap .i64 (d + 1) = d + 1 := by rw [IntKind.wrap_i64]; omega
  have eF : IntKind.wrap .i64 (-d + 1) = -d + 1 := by rw [IntKind.wrap_i64]; omega
  rw [eA, eB, eC, eD, eE, eF] at body
  clear eA eB eC eD eE eF ht
  have step : ∀ i : Nat, i = d.natAbs → k ≠ 0 → D10 n.natAbs = D10 q.natAbs ++ ((ByteArray.mk #[48, 49, 50, 51, 52, 53, 54, 55, 56, 57]).extract i (i + 1) ++ s).data.toList := by
    rintro i hi hk
    rw [dig i (by omega), hD, D10_step k.natAbs (by omega), ← f1.1, ByteArray.data_append, Array.toList_append, List.append_assoc]
    rw [hi, f1.2.1]
  have sz : ∀ i : Nat, i < 10 → ((ByteArray.mk #[48, 49, 50, 51, 52, 53, 54, 55, 56, 57]).extract i (i + 1)).size = 1 := fun i hi => by rw [dig i hi]; rfl
  refine Tr.of_code (known_none nro) (body _) (holds_bif (fun h9 => holds_bif (fun hd9 => ?_) (fun hd9 => ?_)) (fun h9 => ⟨trivial, ?_⟩))
  · have h9 : k ≠ 0 := by simpa using h9
    have hd9 := of_decide_eq_true hd9
    have e1 : Int.toNat (-d) = d.natAbs := by omega
    have e2 : Int.toNat (-d + 1) = d.natAbs + 1 := by omega
    rw [e1, e2]
    refine ⟨?_, q.natAbs, by omega, q, _, rfl, rfl, by omega, step _ rfl h9, rfl⟩
    have hz := sz d.natAbs (by omega)
    with_reducible refine cdb_iff.2 ⟨cdb_iff.2 ⟨trivial, decide_eq_true ?_⟩, decide_eq_true ?_⟩
    · omega
    · exact Nat.le_trans (Nat.add_le_add_right (Nat.le_of_eq hz) s.size) (by omega)
  · have h9 : k ≠ 0 := by simpa using h9
    have hd9 := of_decide_eq_false hd9
    have e1 : Int.toNat d = d.natAbs := by omega
    have e2 : Int.toNat (d + 1) = d.natAbs + 1 := by omega
    rw [e1, e2]
    refine ⟨?_, q.natAbs, by omega, q, _, rfl, rfl, by omega, step _ rfl h9, rfl⟩
    have hz := sz d.natAbs (by omega)
    with_reducible refine cdb_iff.2 ⟨cdb_iff.2 ⟨trivial, decide_eq_true ?_⟩, decide_eq_true ?_⟩
    · omega
    · exact Nat.le_trans (Nat.add_le_add_right (Nat.le_of_eq hz) s.size) (by omega)
  · have h9 : k = 0 := by simpa using h9
    subst h9
    show Trl _ _ ((flatten (bodyOf 12)).drop 5) _ _ _
    have hs : s.data.toList = Lib.decDigits n.natAbs := by
      have : D10 n.natAbs = Lib.decDigits n.natAbs := if_neg (by omega)
      rw [← this, hD]; rfl
    refine Trl.of_code (known_none nro) (ne_nil (by kernel_rfl)) (x_post n 0 s _) (holds_bif (fun hn => ⟨?_, .inr rfl, trivial, ?_⟩) (fun hn => ⟨trivial, .inr rfl, trivial, ?_⟩))
    · with_reducible exact cdb_iff.2 ⟨trivial, decide_eq_true (by omega)⟩
    · have hn := of_decide_eq_true hn
      refine congrArg (fun x => AV.v (.string x)) ?_
      unfold Lib.itoa
      rw [if_pos hn, ← hs]
      apply ByteArray.ext
      apply Array.toList_inj.1
      rw [ByteArray.data_append, Array.toList_append]
      rfl
    · have hn := of_decide_eq_false hn
      refine congrArg (fun x => AV.v (.string x)) ?_
      unfold Lib.itoa
      rw [if_neg hn, show n.toNat = n.natAbs by omega, ← hs]
def rtextP : List Value → Option (Value × Bool) := fun us => match us with
  | [.int .i64 n] => some (.string ⟨(Lib.itoa n).toArray⟩, decide (-9223372036854775808 ≤ n ∧ n ≤ 9223372036854775807))
  | _ => none
theorem rtext_ok (ro : Nat → Option (List Value)) : ∀ args H r H', pure? rtextP args H = some (r, H') → HSound1 Tryd.prog ro 12 args H r H' := by
  refine pure_ok (fun us c hs => Fs.ro ?_ ro) (has_fn (by kernel_rfl))
  unfold rtextP at hs
  split at hs
  · simp only [Option.some.injEq, Prod.mk.injEq, decide_eq_true_eq] at hs
    obtain ⟨rfl, h0, h1⟩ := hs
    exact fs_rtext _ h0 h1
  · cases hs
end Go.Proofs.YtjnonfcemicmoaaDoor.AE
namespace Go.Proofs.YtjnonfcemicmoaaDoor.AE
open Go.RowKit
def tb16 : Array UInt8 := #[48, 49, 50, 51, 52, 53, 54, 55, 56, 57, 97, 98, 99, 100, 101, 102]
def fnd (c : UInt8) : Nat → Int
  | 0 => -1
  | k + 1 => if ((tb16.getD k 0).toNat : Int) == (c.toNat : Int) then (k : Int) else fnd c k
theorem fnd_all : ∀ n, n < 256 → fnd (UInt8.ofNat n) 16 = if hok n then hv n else -1 := by decide +kernel
theorem fnd_16 (c : UInt8) : fnd c 16 = if hok c.toNat then hv c.toNat else -1 := by
  have := fnd_all c.toNat c.toNat_lt
  rwa [UInt8.ofNat_toNat] at this
def pf : Int → List UInt8 → Option Int
  | n, [] => some n
  | n, c :: l => if hok c.toNat = true then pf (16 * n + hv c.toNat) l else none
def pX (s : ByteArray) : Int := if s.size = 16 then (pf 0 s.data.toList).getD 0 else 0
def pE (s : ByteArray) : Int := if s.size = 16 ∧ (pf 0 s.data.toList).isSome = true then 0 else 2
theorem drop_at (s : ByteArray) (i : Nat) (h : i < s.size) : s.data.toList.drop i = s.data.getD i 0 :: s.data.toList.drop (i + 1) := by
  have h' : i < s.data.toList.length := by rw [Array.length_toList]; exact h
  rw [List.drop_eq_getElem_cons h']
  congr 1
  have h2 : i < s.data.size := h
  simp [Array.getD, h2]
  intro h3; omega
theorem hv_rng {c : Int} (h : hok c = true) : 0 ≤ hv c ∧ hv c < 16 := by
  unfold hok at h
  have := of_decide_eq_true h
  unfold hv
  split
  · omega
  · split <;> omega
theorem or16 (n : Nat) (v : Int) (hn : n < 1152921504606846976) (h0 : 0 ≤ v) (h1 : v < 16) : bits .or .u64 (IntKind.wrap .u64 ((n : Int) * 2 ^ 4)) (IntKind.wrap .u64 v) = 16 * n + v := by
  obtain ⟨v, rfl⟩ := Int.eq_ofNat_of_zero_le h0
  have e1 : IntKind.wrap .u64 ((n : Int) * 2 ^ 4) = ((2 ^ 4 * n : Nat) : Int) := by rw [IntKind.wrap_u64]; omega
  have e2 : IntKind.wrap .u64 (v : Int) = (v : Int) := by rw [IntKind.wrap_u64]; omega
  rw [e1, e2, u64_or_nat _ _ (by omega) (by omega), ← Nat.two_pow_add_eq_or_of_lt (show v < 2 ^ 4 by omega)]
  omega
theorem mul16 (n : Nat) (v : Int) (hn : n < 1152921504606846976) (h0 : 0 ≤ v) (h1 : v < 16) : IntKind.wrap .u64 (IntKind.wrap .u64 (16 * (n : Int)) + IntKind.wrap .u64 v) = 16 * n + v := by
  rw [IntKind.wrap_u64, IntKind.wrap_u64, IntKind.wrap_u64]; omega
theorem inc16 (i : Nat) (h : i ≤ 16) : IntKind.wrap .i64 ((i : Int) + 1) = ((i + 1 : Nat) : Int) := by rw [IntKind.wrap_i64]; omega
theorem pow16 (i : Nat) (h : i < 16) : 16 ^ i ≤ 1152921504606846976 := Nat.le_trans (Nat.pow_le_pow_right (by decide) (show i ≤ 15 by omega)) (by decide)
theorem pX_no {s : ByteArray} (h : s.size = 16) (hp : pf 0 s.data.toList = none) : pX s = 0 ∧ pE s = 2 := by
  unfold pX pE; rw [if_pos h, hp, if_neg (by simp)]; exact ⟨rfl, rfl⟩
theorem pX_yes {s : ByteArray} {n : Int} (h : s.size = 16) (hp : pf 0 s.data.toList = some n) : pX s = n ∧ pE s = 0 := by
  unfold pX pE; rw [if_pos h, hp, if_pos ⟨h, rfl⟩]; exact ⟨rfl, rfl⟩
theorem pX_len {s : ByteArray} (h : ¬ s.size = 16) : pX s = 0 ∧ pE s = 2 := by
  unfold pX pE; rw [if_neg h, if_neg (fun x => h x.1)]; exact ⟨rfl, rfl⟩
theorem sl_ph : slotsOf 9 = 30 := by kernel_rfl
theorem re_ph : resultsOf 9 = [.tmp 2, .tmp 3] := by kernel_rfl
theorem fl_ph : (flatten (bodyOf 9)).drop 5 = .block 0 (.loop (sub (bodyOf 9) [1, 1, 1, 0, 1, 0, 0])) :: (flatten (bodyOf 9)).drop 6 := by kernel_rfl
theorem fs_ph (tS tR : TypeId) (pS pR : Value) (s : ByteArray) : Fs Tryd.prog (ro05 tS pS tR pR) 9 [.v (.string s)] (hp [] []) fun r _ => r = .v (.tuple #[.int .u64 (pX s), .int .i64 (pE s)]) := by
  refine Fs.of_body (has_fn (by kernel_rfl)) ?_
  rw [sl_ph, re_ph]
  refine Tr.of_flat (Trl.split 5 (Trl.of_code knownH (ne_nil (by kernel_rfl)) (ph_pre tS tR pS pR s _) (holds_bif (fun h => ⟨trivial, .inr rfl, trivial, ?_⟩) fun h => ⟨trivial, ?_⟩)))
  · have h : ¬ s.size = 16 := by simp at h; omega
    obtain ⟨h1, h2⟩ := pX_len h
    rw [h1, h2]
    rfl
  have h : s.size = 16 := by simp at h; omega
  show Trl _ _ ((flatten (bodyOf 9)).drop 5) _ _ _
  rw [fl_ph]
  refine Tr.keepL [0, 4, 11] rfl ?_
  let I : Nat → List AV → AH → Prop := fun m act H => ∃ i n : Nat, i ≤ 16 ∧ m = 16 - i ∧ act = phA s n i ∧ n < 16 ^ i ∧ pf 0 s.data.toList = pf n (s.data.toList.drop i) ∧ H = hp [] []
  refine Tr.block (Tr.loop I ?_ (m := 16) ⟨0, 0, by omega, rfl, rfl, by decide, by simp, rfl⟩)
  rintro m act H ⟨i, n, hi, rfl, rfl, hn, hp, rfl⟩
  refine Tr.of_code knownH (ph_in tS tR pS pR s n i _) (holds_bif (fun h1 => ?_) fun h1 => ⟨trivial, ?_⟩)
  · have h1 : i < 16 := by have := of_decide_eq_true h1; omega
    have cd : decide ((0 : Int) ≤ (i : Int) ∧ Int.toNat (i : Int) < s.size) = true := decide_eq_true ⟨by omega, by show i < s.size; omega⟩
    rw [drop_at s i (by omega)] at hp
    refine holds_bif (fun h2 => ⟨by with_reducible exact cdb_iff.2 ⟨trivial, cd⟩, .inr rfl, trivial, ?_⟩) (fun h2 => ⟨by with_reducible exact cdb_iff.2 ⟨trivial, cd⟩, ?_⟩)
    · have h2 : ¬ hok ((s.data.getD i 0).toNat : Int) = true := by
        have : (!hok ((s.data.getD i 0).toNat : Int)) = true := h2
        simpa using this
      rw [pf, if_neg h2] at hp
      obtain ⟨h3, h4⟩ := pX_no h hp
      rw [h3, h4]
      rfl
    · have h2 : hok ((s.data.getD i 0).toNat : Int) = true := by
        have : (!hok ((s.data.getD i 0).toNat : Int)) = false := h2
        simpa using this
      rw [pf, if_pos h2] at hp
      obtain ⟨v0, v1⟩ := hv_rng h2
      obtain ⟨v, hv⟩ := Int.eq_ofNat_of_zero_le v0
      have hn' : n < 1152921504606846976 := Nat.lt_of_lt_of_le hn (pow16 i h1)
      have e1 : IntKind.wrap .i64 ((i : Int) + 1) = ((i + 1 : Nat) : Int) := inc16 i hi
      have e2 := or16 n _ hn' v0 v1
      rw [e1]
      rw [hv] at hp v1
      have e3 := e2.trans (show 16 * (n : Int) + AE.hv ((s.data.getD i 0).toNat : Int) = ((16 * n + v : Nat) : Int) by rw [hv]; omega)
      exact ⟨16 - (i + 1), by omega, i + 1, 16 * n + v, by omega, rfl, congrArg (fun z => phA s z ((i + 1 : Nat) : Int)) e3, by rw [Nat.pow_succ]; omega, hp, rfl⟩
  · have h1 : i = 16 := by have := of_decide_eq_false h1; omega
    subst h1
    show Trl _ _ ((flatten (bodyOf 9)).drop 6) _ _ _
    rw [List.drop_eq_nil_of_le (by rw [Array.length_toList]; exact Nat.le_of_eq h)] at hp
    obtain ⟨h3, h4⟩ := pX_yes h hp
    refine Trl.of_code knownH (ne_nil (by kernel_rfl)) (ph_post tS tR pS pR s n _ _) ⟨trivial, .inr rfl, trivial, ?_⟩
    rw [h3, h4]
    rfl
theorem sl_rh : slotsOf 10 = 34 := by kernel_rfl
theorem re_rh : resultsOf 10 = [.tmp 2, .tmp 3] := by kernel_rfl
noncomputable abbrev rhB : Code := sub (bodyOf 10) [1, 1, 1, 0, 1, 0, 0]
noncomputable abbrev rhC : Code := sub (bodyOf 10) [1, 1, 1, 0, 1, 0, 0, 1, 0, 0]
theorem fl_rh : (flatten (bodyOf 10)).drop 5 = .block 0 (.loop rhB) :: (flatten (bodyOf 10)).drop 6 := by kernel_rfl
theorem fl_rhB : (flatten rhB).drop 2 = .block 1 rhC :: (flatten rhB).drop 3 := by kernel_rfl
theorem fl_rhC : (flatten rhC).drop 2 = .block 2 (.loop (sub (bodyOf 10) [1, 1, 1, 0, 1, 0, 0, 1, 0, 0, 1, 0, 1, 0, 0])) :: (flatten rhC).drop 3 := by kernel_rfl
theorem fs_rh (s : ByteArray) : Fs Tryd.prog nro 10 [.v (.string s)] (hp [] []) fun r _ => r = .v (.tuple #[.int .u64 (pX s), .int .i64 (pE s)]) := by
  refine Fs.of_body (has_fn (by kernel_rfl)) ?_
  rw [sl_rh, re_rh]
  refine Tr.of_flat (Trl.split 5 (Trl.of_code (known_none _) (ne_nil (by kernel_rfl)) (rh_pre s _) (holds_bif (fun h => ⟨trivial, .inr rfl, trivial, ?_⟩) fun h => ⟨trivial, ?_⟩)))
  · have h : ¬ s.size = 16 := by simp at h; omega
    obtain ⟨h1, h2⟩ := pX_len h
    rw [h1, h2]
    rfl
  have h : s.size = 16 := by simp at h; omega
  show Trl _ _ ((flatten (bodyOf 10)).drop 5) _ _ _
  rw [fl_rh]
  refine Tr.keepL [0, 4, 5] rfl ?_
  let I : Nat → List AV → AH → Prop := fun m act H => ∃ i n : Nat, i ≤ 16 ∧ m = 16 - i ∧ act = rhA s n i ∧ n < 16 ^ i ∧ pf 0 s.data.toList = pf n (s.data.toList.drop i) ∧ H = hp [] []
  refine Tr.block (Tr.loop I ?_ (m := 16) ⟨0, 0, by omega, rfl, rfl, by decide, by simp, rfl⟩)
  rintro m act H ⟨i, n, hi, rfl, rfl, hn, hp, rfl⟩
  refine Tr.of_flat (Trl.split 2 (Trl.of_code (known_none _) (ne_nil (by kernel_rfl)) (rh_in0 s n i _) (holds_bif (fun h1 => ⟨trivial, ?_⟩) fun h1 => ⟨trivial, ?_⟩)))
  · have h1 : i < 16 := by have := of_decide_eq_true h1; omega
    show Trl _ _ ((flatten rhB).drop 2) _ _ _
    rw [fl_rhB]
    rw [drop_at s i (by omega)] at hp
    refine Tr.block (Tr.of_flat (Trl.split 2 (Trl.of_code (known_none _) (ne_nil (by kernel_rfl)) (rh_b0 s n i _) ⟨trivial, ?_⟩)))
    show Trl _ _ ((flatten rhC).drop 2) _ _ _
    rw [fl_rhC]
    let J : Nat → List AV → AH → Prop := fun m act H => ∃ k : Nat, k ≤ 16 ∧ m = 16 - k ∧ act = riA s n i (fnd (s.data.getD i 0) k) k ∧ H = AE.hp [] []
    refine Tr.block (Tr.loop J ?_ (m := 16) ⟨0, by omega, rfl, rfl, rfl⟩)
    rintro m act H ⟨k, hk, rfl, rfl, rfl⟩
    have cd2 : decide ((0 : Int) ≤ (i : Int) ∧ Int.toNat (i : Int) < s.size) = true := decide_eq_true ⟨by omega, by show i < s.size; omega⟩
    refine Tr.of_code (known_none _) (ri_in s n i _ k _) (holds_bif (fun h2 => ?_) fun h2 => ⟨trivial, ?_⟩)
    · have h2 : k < 16 := by have := of_decide_eq_true h2; omega
      have cd1 : decide ((0 : Int) ≤ (k : Int) ∧ Int.toNat (k : Int) < 16) = true := decide_eq_true ⟨by omega, by show k < 16; omega⟩
      have ek : IntKind.wrap .i64 ((k : Int) + 1) = ((k + 1 : Nat) : Int) := inc16 k hk
      rw [ek]
      refine holds_bif (fun h3 => ⟨by with_reducible exact cdb_iff.2 ⟨cdb_iff.2 ⟨trivial, cd1⟩, cd2⟩, 16 - (k + 1), by omega, k + 1, by omega, rfl, ?_, rfl⟩) (fun h3 => ⟨by with_reducible exact cdb_iff.2 ⟨cdb_iff.2 ⟨trivial, cd1⟩, cd2⟩, 16 - (k + 1), by omega, k + 1, by omega, rfl, ?_, rfl⟩)
      · have h3 : (((tb16.getD k 0).toNat : Int) == ((s.data.getD i 0).toNat : Int)) = true := h3
        rw [fnd, if_pos h3]
        rfl
      · have h3 : (((tb16.getD k 0).toNat : Int) == ((s.data.getD i 0).toNat : Int)) = false := h3
        rw [fnd, if_neg (by rw [h3]; simp)]
        rfl
    · have h2 : k = 16 := by have := of_decide_eq_false h2; omega
      subst h2
      show Trl _ _ ((flatten rhC).drop 3) _ _ _
      rw [fnd_16]
      refine Trl.of_code (known_none _) (ne_nil (by kernel_rfl)) (rh_b1 s n i _ _ _) (holds_bif (fun h3 => ⟨trivial, .inr rfl, trivial, ?_⟩) (fun h3 => ⟨trivial, ?_⟩))
      · have h3 := of_decide_eq_true h3
        have h2 : ¬ hok ((s.data.getD i 0).toNat : Int) = true := fun e => by
          rw [if_pos e] at h3
          have := (hv_rng e).1
          omega
        rw [pf, if_neg h2] at hp
        obtain ⟨h3, h4⟩ := pX_no h hp
        rw [h3, h4]
        rfl
      · have h3 := of_decide_eq_false h3
        have h2 : hok ((s.data.getD i 0).toNat : Int) = true := by
          cases e : hok ((s.data.getD i 0).toNat : Int) with
          | true => rfl
          | false => rw [e] at h3; simp at h3
        rw [pf, if_pos h2] at hp
        rw [if_pos h2] at h3 ⊢
        obtain ⟨v0, v1⟩ := hv_rng h2
        have hn' : n < 1152921504606846976 := Nat.lt_of_lt_of_le hn (pow16 i h1)
        rw [mul16 n _ hn' v0 v1]
        obtain ⟨v, hv⟩ := Int.eq_ofNat_of_zero_le v0
        rw [hv] at hp v1 ⊢
        show Trl _ _ ((flatten rhB).drop 3) _ _ _
        refine Trl.of_code (known_none _) (ne_nil (by kernel_rfl)) (rh_in1 s _ i _) ⟨trivial, ?_⟩
        have ei : IntKind.wrap .i64 ((i : Int) + 1) = ((i + 1 : Nat) : Int) := inc16 i hi
        rw [ei]
        exact ⟨16 - (i + 1), by omega, i + 1, 16 * n + v, by omega, rfl, rfl, by rw [Nat.pow_succ]; omega, hp, rfl⟩
  · have h1 : i = 16 := by have := of_decide_eq_false h1; omega
    subst h1
    show Trl _ _ ((flatten (bodyOf 10)).drop 6) _ _ _
    rw [List.drop_eq_nil_of_le (by rw [Array.length_toList]; exact Nat.le_of_eq h)] at hp
    obtain ⟨h3, h4⟩ := pX_yes h hp
    refine Trl.of_code (known_none _) (ne_nil (by kernel_rfl)) (rh_post s n _ _) ⟨trivial, .inr rfl, trivial, ?_⟩
    rw [h3, h4]
    rfl
def phP : List Value → Option (Value × Bool) := fun us => match us with
  | [.string s] => some (.tuple #[.int .u64 (pX s), .int .i64 (pE s)], true)
  | _ => none
theorem ph_ok {tS tR : TypeId} {pS pR : Value} : ∀ args H r H', pure? phP args H = some (r, H') → HSound1 Tryd.prog (ro05 tS pS tR pR) 9 args H r H' := by
  refine pure_ok (fun us c hs => ?_) (has_fn (by kernel_rfl))
  unfold phP at hs
  split at hs
  · simp only [Option.some.injEq, Prod.mk.injEq, and_true] at hs
    subst hs
    exact fs_ph _ _ _ _ _
  · cases hs
theorem rph_ok (ro : Nat → Option (List Value)) : ∀ args H r H', pure? phP args H = some (r, H') → HSound1 Tryd.prog ro 10 args H r H' := by
  refine pure_ok (fun us c hs => Fs.ro ?_ ro) (has_fn (by kernel_rfl))
  unfold phP at hs
  split at hs
  · simp only [Option.some.injEq, Prod.mk.injEq, and_true] at hs
    subst hs
    exact fs_rh _
  · cases hs
end Go.Proofs.YtjnonfcemicmoaaDoor.AE
namespace Go.Proofs.YtjnonfcemicmoaaDoor.AE
open Go.RowKit
/-- The low k digits. -/
def lowD : Nat → Nat → List UInt8
  | 0, _ => []
  | k + 1, n => tb16.getD (n / 16 ^ k % 16) 0 :: lowD k n
theorem hx_sl : slotsOf 14 = 25 := by kernel_rfl
theorem hx_re : resultsOf 14 = [.tmp 2] := by kernel_rfl
theorem hx_fl : (flatten (bodyOf 14)).drop 3 = .block 0 (.loop (sub (bodyOf 14) [1, 1, 0, 1, 0, 0])) :: (flatten (bodyOf 14)).drop 4 := by kernel_rfl
theorem hx_dig : ∀ i, i < 16 → (ByteArray.mk #[48, 49, 50, 51, 52, 53, 54, 55, 56, 57, 97, 98, 99, 100, 101, 102]).extract i (i + 1) = ⟨#[tb16.getD i 0]⟩ := by decide +kernel
theorem lowD_len : ∀ k n, (lowD k n).length = k
  | 0, _ => rfl
  | k + 1, n => by simp [lowD, lowD_len k n]
theorem fs_rhex (x : Nat) (hx : x < 18446744073709551616) : Fs Tryd.prog nro 14 [.v (.int .u64 x)] (hp [] []) fun r _ => r = .v (.string ⟨(lowD 16 x).toArray⟩) := by
  refine Fs.of_body (has_fn (by kernel_rfl)) ?_
  rw [hx_sl, hx_re]
  refine Tr.of_flat (Trl.split 3 (Trl.of_code (known_none _) (ne_nil (by kernel_rfl)) (hx_pre x _) ⟨trivial, ?_⟩))
  show Trl _ _ ((flatten (bodyOf 14)).drop 3) _ _ _
  rw [hx_fl]
  let I : Nat → List AV → AH → Prop := fun m act H => ∃ i : Nat, i ≤ 16 ∧ m = 16 - i ∧ act = hxA (x / 16 ^ i : Nat) i ⟨(lowD i x).toArray⟩ ∧ H = hp [] []
  refine Tr.block (Tr.loop I ?_ (m := 16) ⟨0, by omega, rfl, by simp [hxA, lowD], rfl⟩)
  rintro m act H ⟨i, hi, rfl, rfl, rfl⟩
  obtain ⟨y, hy⟩ : ∃ y, y = x / 16 ^ i := ⟨_, rfl⟩
  have hyx : y < 18446744073709551616 := by rw [hy]; exact Nat.lt_of_le_of_lt (Nat.div_le_self _ _) hx
  have hy2 : y / 16 = x / 16 ^ (i + 1) := by rw [hy, Nat.div_div_eq_div_mul, Nat.pow_succ]
  have e0 : lowD (i + 1) x = tb16.getD (y % 16) 0 :: lowD i x := by rw [lowD, ← hy]
  rw [← hy]
  have body := fun R => hx_in (y : Int) i ⟨(lowD i x).toArray⟩ R
  have e1 : IntKind.wrap .u64 (Int.tdiv (y : Int) 16) = ((y / 16 : Nat) : Int) := by
    rw [show Int.tdiv (y : Int) 16 = ((y / 16 : Nat) : Int) from rfl, IntKind.wrap_u64]; omega
  rw [e1] at body
  have e2 : IntKind.wrap .u64 (((y / 16 : Nat) : Int) * 16) = ((y / 16 * 16 : Nat) : Int) := by rw [IntKind.wrap_u64]; omega
  rw [e2] at body
  have e3 : IntKind.wrap .u64 ((y : Int) - ((y / 16 * 16 : Nat) : Int)) = ((y % 16 : Nat) : Int) := by rw [IntKind.wrap_u64]; omega
  rw [e3] at body
  have e4 : IntKind.wrap .i64 ((y % 16 : Nat) : Int) = ((y % 16 : Nat) : Int) := by rw [IntKind.wrap_i64]; omega
  rw [e4] at body
  have e5 : IntKind.wrap .i64 (((y % 16 : Nat) : Int) + 1) = ((y % 16 + 1 : Nat) : Int) := inc16 _ (by omega)
  rw [e5, inc16 i hi] at body
  have hm : y % 16 < 16 := Nat.mod_lt _ (by decide)
  have hd := hx_dig (y % 16) hm
  have t1 : Int.toNat ((y % 16 : Nat) : Int) = y % 16 := rfl
  have t2 : Int.toNat ((y % 16 + 1 : Nat) : Int) = y % 16 + 1 := rfl
  rw [t1, t2] at body
  refine Tr.of_code (known_none _) (body _) (holds_bif (fun h1 => ⟨?_, ?_⟩) fun h1 => ⟨trivial, ?_⟩)
  · have hz : ((ByteArray.mk #[48, 49, 50, 51, 52, 53, 54, 55, 56, 57, 97, 98, 99, 100, 101, 102]).extract (y % 16) (y % 16 + 1)).size = 1 := by rw [hd]; rfl
    with_reducible refine cdb_iff.2 ⟨cdb_iff.2 ⟨trivial, decide_eq_true ?_⟩, decide_eq_true ?_⟩
    · omega
    · refine Nat.le_trans (Nat.add_le_add_right (Nat.le_of_eq hz) _) ?_
      have : (ByteArray.mk (lowD i x).toArray).size = i := by show (lowD i x).toArray.size = i; simp [lowD_len]
      rw [this]; omega
  · have h1 : i < 16 := by have := of_decide_eq_true h1; omega
    refine ⟨16 - (i + 1), by omega, i + 1, by omega, rfl, ?_, rfl⟩
    rw [← hy2, e0]
    refine congrArg (fun z => hxA ((y / 16 : Nat) : Int) ((i + 1 : Nat) : Int) z) (?_ : _ ++ _ = _)
    refine (congrArg (· ++ _) hd).trans ?_
    apply ByteArray.ext
    apply Array.toList_inj.1
    rw [ByteArray.data_append, Array.toList_append]
    rfl
  · have h1 : i = 16 := by have := of_decide_eq_false h1; omega
    subst h1
    show Trl _ _ ((flatten (bodyOf 14)).drop 4) _ _ _
    exact Trl.of_code (known_none _) (ne_nil (by kernel_rfl)) (hx_post _ _ _ _) ⟨trivial, .inr rfl, trivial, rfl⟩
/-- Four bits of a number. -/
theorem nib (x : Nat) (m : Nat) (hx : x < 18446744073709551616) : bits .and .u64 (Int.fdiv (x : Int) (2 ^ m)) 15 = ((x / 2 ^ m % 16 : Nat) : Int) := by
  have e : Int.fdiv (x : Int) (2 ^ m) = ((x / 2 ^ m : Nat) : Int) := by
    rw [show (2 : Int) ^ m = ((2 ^ m : Nat) : Int) by simp, Int.fdiv_eq_ediv_of_nonneg _ (Int.natCast_nonneg _)]
    rfl
  have hl : x / 2 ^ m ≤ x := Nat.div_le_self _ _
  rw [e, show (15 : Int) = ((15 : Nat) : Int) from rfl, u64_and_nat _ _ (by omega) (by omega)]
  rw [show (15 : Nat) = 2 ^ 4 - 1 from rfl, Nat.and_two_pow_sub_one_eq_mod]
def tbV : List AV := [48, 49, 50, 51, 52, 53, 54, 55, 56, 57, 97, 98, 99, 100, 101, 102].map fun (n : Int) => .v (.int .u8 n)
theorem tb_at : ∀ i, i < 16 → UInt8.ofNat (Int.toNat (exInt (.v (.int .u8 (exInt (tbV.getD (0 + i * 1 + 0) .dead)))))) = tb16.getD i 0 := by decide +kernel
theorem tb_sh (i : Nat) (hi : i < 16) : (tbV.drop (0 + i * 1)).take 1 = [.v (.int .u8 (exInt (tbV.getD (0 + i * 1 + 0) .dead)))] := by
  match i, hi with
  | 0, _ => rfl
  | 1, _ => rfl
  | 2, _ => rfl
  | 3, _ => rfl
  | 4, _ => rfl
  | 5, _ => rfl
  | 6, _ => rfl
  | 7, _ => rfl
  | 8, _ => rfl
  | 9, _ => rfl
  | 10, _ => rfl
  | 11, _ => rfl
  | 12, _ => rfl
  | 13, _ => rfl
  | 14, _ => rfl
  | 15, _ => rfl
  | n + 16, h => omega
def hxD (x : Int) (k : Nat) : Int := bits .and .u64 (Int.fdiv x (2 ^ k)) 15
def hxC (x : Int) : Nat → Prop
  | 0 => True
  | i + 1 => cds (cdb (hxC x i) (decide (0 ≤ hxD x (4 * i) ∧ hxD x (4 * i) < 16))) (shapes Tryd.prog ((tbV.drop (0 + Int.toNat (hxD x (4 * i)) * 1)).take 1) [5]) ((tbV.drop (0 + Int.toNat (hxD x (4 * i)) * 1)).take 1 = [.v (.int .u8 (exInt (tbV.getD (0 + Int.toNat (hxD x (4 * i)) * 1 + 0) .dead)))])
def hxB (x : Int) : ByteArray := ⟨([15, 14, 13, 12, 11, 10, 9, 8, 7, 6, 5, 4, 3, 2, 1, 0].map fun i => UInt8.ofNat (Int.toNat (exInt (.v (.int .u8 (exInt (tbV.getD (0 + Int.toNat (hxD x (4 * i)) * 1 + 0) .dead))))))).toArray⟩
theorem t_hexc (tS tR : TypeId) (pS pR : Value) (x : Int) (Φ : AV → Prop) : callK (ro05 tS pS tR pR) (fun _ => false) (fun _ => none) 6 13 [.v (.int .u64 x)] (hp [] []) (fun r h => some (h.cd ∧ Φ r)) = some (hxC x 16 ∧ Φ (.v (.string (hxB x)))) := by kernel_rfl
theorem hxD_eq (x m : Nat) (hx : x < 18446744073709551616) : hxD x m = ((x / 2 ^ m % 16 : Nat) : Int) := nib x m hx
theorem hxC_ok (x : Nat) (hx : x < 18446744073709551616) : ∀ i, hxC x i
  | 0 => trivial
  | i + 1 => by
    have hm : x / 2 ^ (4 * i) % 16 < 16 := Nat.mod_lt _ (by decide)
    unfold hxC
    rw [hxD_eq x _ hx]
    refine cds_of (cdb_iff.2 ⟨hxC_ok x hx i, decide_eq_true ⟨by omega, by omega⟩⟩) (tb_sh _ hm)
theorem hxB_eq (x : Nat) (hx : x < 18446744073709551616) : hxB x = ⟨(lowD 16 x).toArray⟩ := by
  have one : ∀ i, UInt8.ofNat (Int.toNat (exInt (.v (.int .u8 (exInt (tbV.getD (0 + Int.toNat (hxD x (4 * i)) * 1 + 0) .dead)))))) = tb16.getD (x / 16 ^ i % 16) 0 := fun i => by
    rw [hxD_eq x _ hx, Nat.pow_mul]
    exact tb_at _ (Nat.mod_lt _ (by decide))
  unfold hxB
  simp only [one]
  rfl
theorem fs_hex (tS tR : TypeId) (pS pR : Value) (x : Nat) (hx : x < 18446744073709551616) : Fs Tryd.prog (ro05 tS pS tR pR) 13 [.v (.int .u64 x)] (hp [] []) fun r _ => r = .v (.string ⟨(lowD 16 x).toArray⟩) :=
  Fs.of_call (known_none _) (t_hexc tS tR pS pR x fun r => r = .v (.string ⟨(lowD 16 x).toArray⟩)) ⟨hxC_ok x hx 16, by rw [hxB_eq x hx]⟩
def hexS (x : Int) : ByteArray := ⟨(lowD 16 x.toNat).toArray⟩
def hexP : List Value → Option (Value × Bool) := fun us => match us with
  | [.int .u64 x] => some (.string (hexS x), decide (0 ≤ x ∧ x < 18446744073709551616))
  | _ => none
theorem hex_ok {tS tR : TypeId} {pS pR : Value} : ∀ args H r H', pure? hexP args H = some (r, H') → HSound1 Tryd.prog (ro05 tS pS tR pR) 13 args H r H' := by
  refine pure_ok (fun us c hs => ?_) (has_fn (by kernel_rfl))
  unfold hexP at hs
  split at hs
  · simp only [Option.some.injEq, Prod.mk.injEq, decide_eq_true_eq] at hs
    obtain ⟨rfl, h0, h1⟩ := hs
    rename_i x
    obtain ⟨x, rfl⟩ := Int.eq_ofNat_of_zero_le h0
    exact fs_hex _ _ _ _ x (by omega)
  · cases hs
theorem rhex_ok (ro : Nat → Option (List Value)) : ∀ args H r H', pure? hexP args H = some (r, H') → HSound1 Tryd.prog ro 14 args H r H' := by
  refine pure_ok (fun us c hs => Fs.ro ?_ ro) (has_fn (by kernel_rfl))
  unfold hexP at hs
  split at hs
  · simp only [Option.some.injEq, Prod.mk.injEq, decide_eq_true_eq] at hs
    obtain ⟨rfl, h0, h1⟩ := hs
    rename_i x
    obtain ⟨x, rfl⟩ := Int.eq_ofNat_of_zero_le h0
    exact fs_rhex x (by omega)
  · cases hs
end Go.Proofs.YtjnonfcemicmoaaDoor.AE
namespace Go.Proofs.YtjnonfcemicmoaaDoor.AE
open Go.RowKit
noncomputable def prN : FuncId → Option (List AV → AH → Ans) := fun g => match g with
  | 12 => some (pure? rtextP)
  | _ => none
theorem knownN (ro : Nat → Option (List Value)) : Known ro prN := by
  intro g p h
  unfold prN at h
  split at h
  · cases h; exact rtext_ok _
  · cases h
def pA (s : ByteArray) (f n i : Int) : List AV := [.v (.string s), .dead, .dead, .dead, .v (.int .i64 f), .v (.int .i64 n), .v (.int .i64 i)] ++ List.replicate 53 .dead
theorem p_pre (s : ByteArray) (R : Exit → List AV → AH → Prop) : codeL nro (fun _ => false) prN 5 ((flatten (bodyOf 8)).take 8) ([.v (.string s)] ++ List.replicate 59 (.v undef)) (hp [] []) (kp [0, 2, 3, 4, 5, 6] R) =
    (bif (decide ((0 : Int) < ((ByteArray.size s) : Int))) then (bif (((UInt8.toNat (Array.getD (ByteArray.data s) (0 : Nat) (@OfNat.ofNat UInt8 (0 : Nat) (@UInt8.instOfNat 0)))) : Int) == (45 : Int)) then (bif (((ByteArray.size s) : Int) == (1 : Int)) then (some ((cdb True (decide (((0 : Int) ≤ (0 : Int)) ∧ ((0 : Nat) < (ByteArray.size s))))) ∧ (R Exit.ret [(AV.v (Value.string s)), AV.dead, (AV.v (Value.int IntKind.i64 (0 : Int))), (AV.v (Value.int IntKind.i64 (2 : Int))), (AV.v (Value.int IntKind.i64 (1 : Int))), (AV.v (Value.tuple (Array.mk (@List.nil Go.Value)))), (AV.v (Value.tuple (Array.mk (@List.nil Go.Value)))), AV.dead, AV.dead, AV.dead, AV.dead, AV.dead, AV.dead, AV.dead, AV.dead, AV.dead, AV.dead, AV.dead, AV.dead, AV.dead, AV.dead, AV.dead, AV.dead, AV.dead, AV.dead, AV.dead, AV.dead, AV.dead, AV.dead, AV.dead, AV.dead, AV.dead, AV.dead, AV.dead, AV.dead, AV.dead, AV.dead, AV.dead, AV.dead, AV.dead, AV.dead, AV.dead, AV.dead, AV.dead, AV.dead, AV.dead, AV.dead, AV.dead, AV.dead, AV.dead, AV.dead, AV.dead, AV.dead, AV.dead, AV.dead, AV.dead, AV.dead, AV.dead, AV.dead, AV.dead] (AH.mk (@List.nil (Prod Go.TypeId (List AV))) (@List.nil Nat) (0 : Nat) (0 : Nat) true (@List.nil (Prod Nat Bool)) True)))) else (bif (decide ((20 : Int) < ((ByteArray.size s) : Int))) then (some ((cdb True (decide (((0 : Int) ≤ (0 : Int)) ∧ ((0 : Nat) < (ByteArray.size s))))) ∧ (R Exit.ret [(AV.v (Value.string s)), AV.dead, (AV.v (Value.int IntKind.i64 (0 : Int))), (AV.v (Value.int IntKind.i64 (2 : Int))), (AV.v (Value.int IntKind.i64 (1 : Int))), (AV.v (Value.tuple (Array.mk (@List.nil Go.Value)))), (AV.v (Value.tuple (Array.mk (@List.nil Go.Value)))), AV.dead, AV.dead, AV.dead, AV.dead, AV.dead, AV.dead, AV.dead, AV.dead, AV.dead, AV.dead, AV.dead, AV.dead, AV.dead, AV.dead, AV.dead, AV.dead, AV.dead, AV.dead, AV.dead, AV.dead, AV.dead, AV.dead, AV.dead, AV.dead, AV.dead, AV.dead, AV.dead, AV.dead, AV.dead, AV.dead, AV.dead, AV.dead, AV.dead, AV.dead, AV.dead, AV.dead, AV.dead, AV.dead, AV.dead, AV.dead, AV.dead, AV.dead, AV.dead, AV.dead, AV.dead, AV.dead, AV.dead, AV.dead, AV.dead, AV.dead, AV.dead, AV.dead, AV.dead] (AH.mk (@List.nil (Prod Go.TypeId (List AV))) (@List.nil Nat) (0 : Nat) (0 : Nat) true (@List.nil (Prod Nat Bool)) True)))) else (some ((cdb True (decide (((0 : Int) ≤ (0 : Int)) ∧ ((0 : Nat) < (ByteArray.size s))))) ∧ (R Exit.normal [(AV.v (Value.string s)), AV.dead, (AV.v (Value.int IntKind.i64 (0 : Int))), (AV.v (Value.int IntKind.i64 (0 : Int))), (AV.v (Value.int IntKind.i64 (1 : Int))), (AV.v (Value.int IntKind.i64 (0 : Int))), (AV.v (Value.int IntKind.i64 (1 : Int))), AV.dead, AV.dead, AV.dead, AV.dead, AV.dead, AV.dead, AV.dead, AV.dead, AV.dead, AV.dead, AV.dead, AV.dead, AV.dead, AV.dead, AV.dead, AV.dead, AV.dead, AV.dead, AV.dead, AV.dead, AV.dead, AV.dead, AV.dead, AV.dead, AV.dead, AV.dead, AV.dead, AV.dead, AV.dead, AV.dead, AV.dead, AV.dead, AV.dead, AV.dead, AV.dead, AV.dead, AV.dead, AV.dead, AV.dead, AV.dead, AV.dead, AV.dead, AV.dead, AV.dead, AV.dead, AV.dead, AV.dead, AV.dead, AV.dead, AV.dead, AV.dead, AV.dead, AV.dead] (AH.mk (@List.nil (Prod Go.TypeId (List AV))) (@List.nil Nat) (0 : Nat) (0 : Nat) true (@List.nil (Prod Nat Bool)) True)))))) else (bif (((ByteArray.size s) : Int) == (0 : Int)) then (some ((cdb True (decide (((0 : Int) ≤ (0 : Int)) ∧ ((0 : Nat) < (ByteArray.size s))))) ∧ (R Exit.ret [(AV.v (Value.string s)), AV.dead, (AV.v (Value.int IntKind.i64 (0 : Int))), (AV.v (Value.int IntKind.i64 (2 : Int))), (AV.v (Value.int IntKind.i64 (0 : Int))), (AV.v (Value.tuple (Array.mk (@List.nil Go.Value)))), (AV.v (Value.tuple (Array.mk (@List.nil Go.Value)))), AV.dead, AV.dead, AV.dead, AV.dead, AV.dead, AV.dead, AV.dead, AV.dead, AV.dead, AV.dead, AV.dead, AV.dead, AV.dead, AV.dead, AV.dead, AV.dead, AV.dead, AV.dead, AV.dead, AV.dead, AV.dead, AV.dead, AV.dead, AV.dead, AV.dead, AV.dead, AV.dead, AV.dead, AV.dead, AV.dead, AV.dead, AV.dead, AV.dead, AV.dead, AV.dead, AV.dead, AV.dead, AV.dead, AV.dead, AV.dead, AV.dead, AV.dead, AV.dead, AV.dead, AV.dead, AV.dead, AV.dead, AV.dead, AV.dead, AV.dead, AV.dead, AV.dead, AV.dead] (AH.mk (@List.nil (Prod Go.TypeId (List AV))) (@List.nil Nat) (0 : Nat) (0 : Nat) true (@List.nil (Prod Nat Bool)) True)))) else (bif (decide ((19 : Int) < ((ByteArray.size s) : Int))) then (some ((cdb True (decide (((0 : Int) ≤ (0 : Int)) ∧ ((0 : Nat) < (ByteArray.size s))))) ∧ (R Exit.ret [(AV.v (Value.string s)), AV.dead, (AV.v (Value.int IntKind.i64 (0 : Int))), (AV.v (Value.int IntKind.i64 (2 : Int))), (AV.v (Value.int IntKind.i64 (0 : Int))), (AV.v (Value.tuple (Array.mk (@List.nil Go.Value)))), (AV.v (Value.tuple (Array.mk (@List.nil Go.Value)))), AV.dead, AV.dead, AV.dead, AV.dead, AV.dead, AV.dead, AV.dead, AV.dead, AV.dead, AV.dead, AV.dead, AV.dead, AV.dead, AV.dead, AV.dead, AV.dead, AV.dead, AV.dead, AV.dead, AV.dead, AV.dead, AV.dead, AV.dead, AV.dead, AV.dead, AV.dead, AV.dead, AV.dead, AV.dead, AV.dead, AV.dead, AV.dead, AV.dead, AV.dead, AV.dead, AV.dead, AV.dead, AV.dead, AV.dead, AV.dead, AV.dead, AV.dead, AV.dead, AV.dead, AV.dead, AV.dead, AV.dead, AV.dead, AV.dead, AV.dead, AV.dead, AV.dead, AV.dead] (AH.mk (@List.nil (Prod Go.TypeId (List AV))) (@List.nil Nat) (0 : Nat) (0 : Nat) true (@List.nil (Prod Nat Bool)) True)))) else (some ((cdb True (decide (((0 : Int) ≤ (0 : Int)) ∧ ((0 : Nat) < (ByteArray.size s))))) ∧ (R Exit.normal [(AV.v (Value.string s)), AV.dead, (AV.v (Value.int IntKind.i64 (0 : Int))), (AV.v (Value.int IntKind.i64 (0 : Int))), (AV.v (Value.int IntKind.i64 (0 : Int))), (AV.v (Value.int IntKind.i64 (0 : Int))), (AV.v (Value.int IntKind.i64 (0 : Int))), AV.dead, AV.dead, AV.dead, AV.dead, AV.dead, AV.dead, AV.dead, AV.dead, AV.dead, AV.dead, AV.dead, AV.dead, AV.dead, AV.dead, AV.dead, AV.dead, AV.dead, AV.dead, AV.dead, AV.dead, AV.dead, AV.dead, AV.dead, AV.dead, AV.dead, AV.dead, AV.dead, AV.dead, AV.dead, AV.dead, AV.dead, AV.dead, AV.dead, AV.dead, AV.dead, AV.dead, AV.dead, AV.dead, AV.dead, AV.dead, AV.dead, AV.dead, AV.dead, AV.dead, AV.dead, AV.dead, AV.dead, AV.dead, AV.dead, AV.dead, AV.dead, AV.dead, AV.dead] (AH.mk (@List.nil (Prod Go.TypeId (List AV))) (@List.nil Nat) (0 : Nat) (0 : Nat) true (@List.nil (Prod Nat Bool)) True))))))) else (bif (((ByteArray.size s) : Int) == (0 : Int)) then (some (True ∧ (R Exit.ret [(AV.v (Value.string s)), AV.dead, (AV.v (Value.int IntKind.i64 (0 : Int))), (AV.v (Value.int IntKind.i64 (2 : Int))), (AV.v (Value.int IntKind.i64 (0 : Int))), (AV.v (Value.tuple (Array.mk (@List.nil Go.Value)))), (AV.v (Value.tuple (Array.mk (@List.nil Go.Value)))), AV.dead, AV.dead, AV.dead, AV.dead, AV.dead, AV.dead, AV.dead, AV.dead, AV.dead, AV.dead, AV.dead, AV.dead, AV.dead, AV.dead, AV.dead, AV.dead, AV.dead, AV.dead, AV.dead, AV.dead, AV.dead, AV.dead, AV.dead, AV.dead, AV.dead, AV.dead, AV.dead, AV.dead, AV.dead, AV.dead, AV.dead, AV.dead, AV.dead, AV.dead, AV.dead, AV.dead, AV.dead, AV.dead, AV.dead, AV.dead, AV.dead, AV.dead, AV.dead, AV.dead, AV.dead, AV.dead, AV.dead, AV.dead, AV.dead, AV.dead, AV.dead, AV.dead, AV.dead] (AH.mk (@List.nil (Prod Go.TypeId (List AV))) (@List.nil Nat) (0 : Nat) (0 : Nat) true (@List.nil (Prod Nat Bool)) True)))) else (bif (decide ((19 : Int) < ((ByteArray.size s) : Int))) then (some (True ∧ (R Exit.ret [(AV.v (Value.string s)), AV.dead, (AV.v (Value.int IntKind.i64 (0 : Int))), (AV.v (Value.int IntKind.i64 (2 : Int))), (AV.v (Value.int IntKind.i64 (0 : Int))), (AV.v (Value.tuple (Array.mk (@List.nil Go.Value)))), (AV.v (Value.tuple (Array.mk (@List.nil Go.Value)))), AV.dead, AV.dead, AV.dead, AV.dead, AV.dead, AV.dead, AV.dead, AV.dead, AV.dead, AV.dead, AV.dead, AV.dead, AV.dead, AV.dead, AV.dead, AV.dead, AV.dead, AV.dead, AV.dead, AV.dead, AV.dead, AV.dead, AV.dead, AV.dead, AV.dead, AV.dead, AV.dead, AV.dead, AV.dead, AV.dead, AV.dead, AV.dead, AV.dead, AV.dead, AV.dead, AV.dead, AV.dead, AV.dead, AV.dead, AV.dead, AV.dead, AV.dead, AV.dead, AV.dead, AV.dead, AV.dead, AV.dead, AV.dead, AV.dead, AV.dead, AV.dead, AV.dead, AV.dead] (AH.mk (@List.nil (Prod Go.TypeId (List AV))) (@List.nil Nat) (0 : Nat) (0 : Nat) true (@List.nil (Prod Nat Bool)) True)))) else (some (True ∧ (R Exit.normal [(AV.v (Value.string s)), AV.dead, (AV.v (Value.int IntKind.i64 (0 : Int))), (AV.v (Value.int IntKind.i64 (0 : Int))), (AV.v (Value.int IntKind.i64 (0 : Int))), (AV.v (Value.int IntKind.i64 (0 : Int))), (AV.v (Value.int IntKind.i64 (0 : Int))), AV.dead, AV.dead, AV.dead, AV.dead, AV.dead, AV.dead, AV.dead, AV.dead, AV.dead, AV.dead, AV.dead, AV.dead, AV.dead, AV.dead, AV.dead, AV.dead, AV.dead, AV.dead, AV.dead, AV.dead, AV.dead, AV.dead, AV.dead, AV.dead, AV.dead, AV.dead, AV.dead, AV.dead, AV.dead, AV.dead, AV.dead, AV.dead, AV.dead, AV.dead, AV.dead, AV.dead, AV.dead, AV.dead, AV.dead, AV.dead, AV.dead, AV.dead, AV.dead, AV.dead, AV.dead, AV.dead, AV.dead, AV.dead, AV.dead, AV.dead, AV.dead, AV.dead, AV.dead] (AH.mk (@List.nil (Prod Go.TypeId (List AV))) (@List.nil Nat) (0 : Nat) (0 : Nat) true (@List.nil (Prod Nat Bool)) True))))))) := by kernel_rfl
theorem p_in (s : ByteArray) (f n i : Int) (R : Exit → List AV → AH → Prop) : code nro (fun _ => false) prN 5 (sub (bodyOf 8) [1, 1, 1, 1, 1, 0, 1, 0, 0]) (pA s f n i) (hp [] []) (kp [0, 2, 3, 4, 5, 6] R) =
    (bif (decide (i < ((ByteArray.size s) : Int))) then (bif (decide (((UInt8.toNat (Array.getD (ByteArray.data s) (Int.toNat i) (@OfNat.ofNat UInt8 (0 : Nat) (@UInt8.instOfNat 0)))) : Int) < (48 : Int))) then (some ((cdb True (decide (((0 : Int) ≤ i) ∧ ((Int.toNat i) < (ByteArray.size s))))) ∧ (R Exit.ret [(AV.v (Value.string s)), AV.dead, (AV.v (Value.int IntKind.i64 (0 : Int))), (AV.v (Value.int IntKind.i64 (2 : Int))), (AV.v (Value.int IntKind.i64 f)), (AV.v (Value.int IntKind.i64 n)), (AV.v (Value.int IntKind.i64 i)), AV.dead, AV.dead, AV.dead, AV.dead, AV.dead, AV.dead, AV.dead, AV.dead, AV.dead, AV.dead, AV.dead, AV.dead, AV.dead, AV.dead, AV.dead, AV.dead, AV.dead, AV.dead, AV.dead, AV.dead, AV.dead, AV.dead, AV.dead, AV.dead, AV.dead, AV.dead, AV.dead, AV.dead, AV.dead, AV.dead, AV.dead, AV.dead, AV.dead, AV.dead, AV.dead, AV.dead, AV.dead, AV.dead, AV.dead, AV.dead, AV.dead, AV.dead, AV.dead, AV.dead, AV.dead, AV.dead, AV.dead, AV.dead, AV.dead, AV.dead, AV.dead, AV.dead, AV.dead] (AH.mk (@List.nil (Prod Go.TypeId (List AV))) (@List.nil Nat) (0 : Nat) (0 : Nat) true (@List.nil (Prod Nat Bool)) True)))) else (bif (decide ((57 : Int) < ((UInt8.toNat (Array.getD (ByteArray.data s) (Int.toNat i) (@OfNat.ofNat UInt8 (0 : Nat) (@UInt8.instOfNat 0)))) : Int))) then (some ((cdb (cdb True (decide (((0 : Int) ≤ i) ∧ ((Int.toNat i) < (ByteArray.size s))))) (decide (((0 : Int) ≤ i) ∧ ((Int.toNat i) < (ByteArray.size s))))) ∧ (R Exit.ret [(AV.v (Value.string s)), AV.dead, (AV.v (Value.int IntKind.i64 (0 : Int))), (AV.v (Value.int IntKind.i64 (2 : Int))), (AV.v (Value.int IntKind.i64 f)), (AV.v (Value.int IntKind.i64 n)), (AV.v (Value.int IntKind.i64 i)), AV.dead, AV.dead, AV.dead, AV.dead, AV.dead, AV.dead, AV.dead, AV.dead, AV.dead, AV.dead, AV.dead, AV.dead, AV.dead, AV.dead, AV.dead, AV.dead, AV.dead, AV.dead, AV.dead, AV.dead, AV.dead, AV.dead, AV.dead, AV.dead, AV.dead, AV.dead, AV.dead, AV.dead, AV.dead, AV.dead, AV.dead, AV.dead, AV.dead, AV.dead, AV.dead, AV.dead, AV.dead, AV.dead, AV.dead, AV.dead, AV.dead, AV.dead, AV.dead, AV.dead, AV.dead, AV.dead, AV.dead, AV.dead, AV.dead, AV.dead, AV.dead, AV.dead, AV.dead] (AH.mk (@List.nil (Prod Go.TypeId (List AV))) (@List.nil Nat) (0 : Nat) (0 : Nat) true (@List.nil (Prod Nat Bool)) True)))) else (some ((cdb (cdb (cdb True (decide (((0 : Int) ≤ i) ∧ ((Int.toNat i) < (ByteArray.size s))))) (decide (((0 : Int) ≤ i) ∧ ((Int.toNat i) < (ByteArray.size s))))) (decide (((0 : Int) ≤ i) ∧ ((Int.toNat i) < (ByteArray.size s))))) ∧ (R Exit.normal [(AV.v (Value.string s)), AV.dead, AV.dead, AV.dead, (AV.v (Value.int IntKind.i64 f)), (AV.v (Value.int IntKind.i64 (IntKind.wrap IntKind.i64 ((IntKind.wrap IntKind.i64 ((10 : Int) * n)) - (IntKind.wrap IntKind.i64 (IntKind.wrap IntKind.u8 (((UInt8.toNat (Array.getD (ByteArray.data s) (Int.toNat i) (@OfNat.ofNat UInt8 (0 : Nat) (@UInt8.instOfNat 0)))) : Int) - (48 : Int)))))))), (AV.v (Value.int IntKind.i64 (IntKind.wrap IntKind.i64 (i + (1 : Int))))), AV.dead, AV.dead, AV.dead, AV.dead, AV.dead, AV.dead, AV.dead, AV.dead, AV.dead, AV.dead, AV.dead, AV.dead, AV.dead, AV.dead, AV.dead, AV.dead, AV.dead, AV.dead, AV.dead, AV.dead, AV.dead, AV.dead, AV.dead, AV.dead, AV.dead, AV.dead, AV.dead, AV.dead, AV.dead, AV.dead, AV.dead, AV.dead, AV.dead, AV.dead, AV.dead, AV.dead, AV.dead, AV.dead, AV.dead, AV.dead, AV.dead, AV.dead, AV.dead, AV.dead, AV.dead, AV.dead, AV.dead, AV.dead, AV.dead, AV.dead, AV.dead, AV.dead, AV.dead] (AH.mk (@List.nil (Prod Go.TypeId (List AV))) (@List.nil Nat) (0 : Nat) (0 : Nat) true (@List.nil (Prod Nat Bool)) True)))))) else (some (True ∧ (R (Exit.exit (0 : Nat)) [(AV.v (Value.string s)), AV.dead, AV.dead, AV.dead, (AV.v (Value.int IntKind.i64 f)), (AV.v (Value.int IntKind.i64 n)), (AV.v (Value.int IntKind.i64 i)), AV.dead, AV.dead, AV.dead, AV.dead, AV.dead, AV.dead, AV.dead, AV.dead, AV.dead, AV.dead, AV.dead, AV.dead, AV.dead, AV.dead, AV.dead, AV.dead, AV.dead, AV.dead, AV.dead, AV.dead, AV.dead, AV.dead, AV.dead, AV.dead, AV.dead, AV.dead, AV.dead, AV.dead, AV.dead, AV.dead, AV.dead, AV.dead, AV.dead, AV.dead, AV.dead, AV.dead, AV.dead, AV.dead, AV.dead, AV.dead, AV.dead, AV.dead, AV.dead, AV.dead, AV.dead, AV.dead, AV.dead, AV.dead, AV.dead, AV.dead, AV.dead, AV.dead, AV.dead] (AH.mk (@List.nil (Prod Go.TypeId (List AV))) (@List.nil Nat) (0 : Nat) (0 : Nat) true (@List.nil (Prod Nat Bool)) True))))) := by kernel_rfl
theorem p_post (s : ByteArray) (f n i : Int) (R : Exit → List AV → AH → Prop) : codeL nro (fun _ => false) prN 5 ((flatten (bodyOf 8)).drop 9) (pA s f n i) (hp [] []) (kp [2, 3] R) =
    (bif (f == (0 : Int)) then (bif (!((ByteArray.toList (ByteArray.mk (Array.mk (Go.Lib.itoa (IntKind.wrap IntKind.i64 ((0 : Int) - n)))))) == (ByteArray.toList s))) then (some ((cdb True (decide (((-(9223372036854775808 : Int)) ≤ (IntKind.wrap IntKind.i64 ((0 : Int) - n))) ∧ ((IntKind.wrap IntKind.i64 ((0 : Int) - n)) ≤ (9223372036854775807 : Int))))) ∧ (R Exit.ret [AV.dead, AV.dead, (AV.v (Value.int IntKind.i64 (0 : Int))), (AV.v (Value.int IntKind.i64 (2 : Int))), AV.dead, AV.dead, AV.dead, AV.dead, AV.dead, AV.dead, AV.dead, AV.dead, AV.dead, AV.dead, AV.dead, AV.dead, AV.dead, AV.dead, AV.dead, AV.dead, AV.dead, AV.dead, AV.dead, AV.dead, AV.dead, AV.dead, AV.dead, AV.dead, AV.dead, AV.dead, AV.dead, AV.dead, AV.dead, AV.dead, AV.dead, AV.dead, AV.dead, AV.dead, AV.dead, AV.dead, AV.dead, AV.dead, AV.dead, AV.dead, AV.dead, AV.dead, AV.dead, AV.dead, AV.dead, AV.dead, AV.dead, AV.dead, AV.dead, AV.dead, AV.dead, AV.dead, AV.dead, AV.dead, AV.dead, AV.dead] (AH.mk (@List.nil (Prod Go.TypeId (List AV))) (@List.nil Nat) (0 : Nat) (0 : Nat) true (@List.nil (Prod Nat Bool)) True)))) else (some ((cdb True (decide (((-(9223372036854775808 : Int)) ≤ (IntKind.wrap IntKind.i64 ((0 : Int) - n))) ∧ ((IntKind.wrap IntKind.i64 ((0 : Int) - n)) ≤ (9223372036854775807 : Int))))) ∧ (R Exit.ret [AV.dead, AV.dead, (AV.v (Value.int IntKind.i64 (IntKind.wrap IntKind.i64 ((0 : Int) - n)))), (AV.v (Value.int IntKind.i64 (0 : Int))), AV.dead, AV.dead, AV.dead, AV.dead, AV.dead, AV.dead, AV.dead, AV.dead, AV.dead, AV.dead, AV.dead, AV.dead, AV.dead, AV.dead, AV.dead, AV.dead, AV.dead, AV.dead, AV.dead, AV.dead, AV.dead, AV.dead, AV.dead, AV.dead, AV.dead, AV.dead, AV.dead, AV.dead, AV.dead, AV.dead, AV.dead, AV.dead, AV.dead, AV.dead, AV.dead, AV.dead, AV.dead, AV.dead, AV.dead, AV.dead, AV.dead, AV.dead, AV.dead, AV.dead, AV.dead, AV.dead, AV.dead, AV.dead, AV.dead, AV.dead, AV.dead, AV.dead, AV.dead, AV.dead, AV.dead, AV.dead] (AH.mk (@List.nil (Prod Go.TypeId (List AV))) (@List.nil Nat) (0 : Nat) (0 : Nat) true (@List.nil (Prod Nat Bool)) True))))) else (bif (!((ByteArray.toList (ByteArray.mk (Array.mk (Go.Lib.itoa n)))) == (ByteArray.toList s))) then (some ((cdb True (decide (((-(9223372036854775808 : Int)) ≤ n) ∧ (n ≤ (9223372036854775807 : Int))))) ∧ (R Exit.ret [AV.dead, AV.dead, (AV.v (Value.int IntKind.i64 (0 : Int))), (AV.v (Value.int IntKind.i64 (2 : Int))), AV.dead, AV.dead, AV.dead, AV.dead, AV.dead, AV.dead, AV.dead, AV.dead, AV.dead, AV.dead, AV.dead, AV.dead, AV.dead, AV.dead, AV.dead, AV.dead, AV.dead, AV.dead, AV.dead, AV.dead, AV.dead, AV.dead, AV.dead, AV.dead, AV.dead, AV.dead, AV.dead, AV.dead, AV.dead, AV.dead, AV.dead, AV.dead, AV.dead, AV.dead, AV.dead, AV.dead, AV.dead, AV.dead, AV.dead, AV.dead, AV.dead, AV.dead, AV.dead, AV.dead, AV.dead, AV.dead, AV.dead, AV.dead, AV.dead, AV.dead, AV.dead, AV.dead, AV.dead, AV.dead, AV.dead, AV.dead] (AH.mk (@List.nil (Prod Go.TypeId (List AV))) (@List.nil Nat) (0 : Nat) (0 : Nat) true (@List.nil (Prod Nat Bool)) True)))) else (some ((cdb True (decide (((-(9223372036854775808 : Int)) ≤ n) ∧ (n ≤ (9223372036854775807 : Int))))) ∧ (R Exit.ret [AV.dead, AV.dead, (AV.v (Value.int IntKind.i64 n)), (AV.v (Value.int IntKind.i64 (0 : Int))), AV.dead, AV.dead, AV.dead, AV.dead, AV.dead, AV.dead, AV.dead, AV.dead, AV.dead, AV.dead, AV.dead, AV.dead, AV.dead, AV.dead, AV.dead, AV.dead, AV.dead, AV.dead, AV.dead, AV.dead, AV.dead, AV.dead, AV.dead, AV.dead, AV.dead, AV.dead, AV.dead, AV.dead, AV.dead, AV.dead, AV.dead, AV.dead, AV.dead, AV.dead, AV.dead, AV.dead, AV.dead, AV.dead, AV.dead, AV.dead, AV.dead, AV.dead, AV.dead, AV.dead, AV.dead, AV.dead, AV.dead, AV.dead, AV.dead, AV.dead, AV.dead, AV.dead, AV.dead, AV.dead, AV.dead, AV.dead] (AH.mk (@List.nil (Prod Go.TypeId (List AV))) (@List.nil Nat) (0 : Nat) (0 : Nat) true (@List.nil (Prod Nat Bool)) True)))))) := by kernel_rfl
end Go.Proofs.YtjnonfcemicmoaaDoor.AE
namespace Go.Proofs.YtjnonfcemicmoaaDoor
namespace De
open Go.Lib
theorem digits_rng (u : Nat) : ∀ c ∈ decDigits u, 48 ≤ c.toNat ∧ c.toNat ≤ 57 := by
  induction u using Nat.strongRecOn with
  | _ u ih =>
    intro c hc
    rw [decDigits] at hc
    have one : ∀ i, i < 10 → 48 ≤ (UInt8.ofNat (48 + i)).toNat ∧ (UInt8.ofNat (48 + i)).toNat ≤ 57 := by decide +kernel
    split at hc
    · rename_i h
      simp only [List.mem_singleton] at hc
      rw [hc]; exact one u h
    · rename_i h
      rw [List.mem_append] at hc
      rcases hc with hc | hc
      · exact ih (u / 10) (by omega) c hc
      · simp only [List.mem_singleton] at hc
        rw [hc]; exact one (u % 10) (by omega)
theorem digits_ne (u : Nat) : decDigits u ≠ [] := by
  rw [decDigits]
  split <;> simp
def stepU (acc : Nat) (c : UInt8) : NumEnd Nat := parseUint10 acc [c]
theorem parse_snoc (c : UInt8) : ∀ (l : List UInt8) (acc a : Nat), parseUint10 acc l = .ok a → parseUint10 acc (l ++ [c]) = parseUint10 a [c]
  | [], acc, a, h => by
    simp only [parseUint10] at h
    injection h with h
    subst h; rfl
  | d :: l, acc, a, h => by
    show parseUint10 acc (d :: (l ++ [c])) = _
    rw [parseUint10] at h ⊢
    split at h
    · rename_i h1
      rw [if_pos h1]
      split at h
      · cases h
      · rename_i h2
        rw [if_neg h2]
        split at h
        · cases h
        · rename_i h3
          rw [if_neg h3]
          exact parse_snoc c l _ a h
    · cases h
theorem one_digit (a i : Nat) (hi : i < 10) (h : a * 10 + i < 18446744073709551616) : parseUint10 a [UInt8.ofNat (48 + i)] = .ok (a * 10 + i) := by
  have e : (UInt8.ofNat (48 + i)).toNat = 48 + i := UInt8.toNat_ofNat_of_lt' (by show 48 + i < 256; omega)
  rw [parseUint10, e, if_pos ⟨by omega, by omega⟩, if_neg (by omega), if_neg (by omega), parseUint10]
  congr 1
  omega
theorem parse_digits (u : Nat) (h : u < 18446744073709551616) : parseUint10 0 (decDigits u) = .ok u := by
  induction u using Nat.strongRecOn with
  | _ u ih =>
    rw [decDigits]
    split
    · rename_i h10
      have := one_digit 0 u h10 (by omega)
      rwa [Nat.zero_mul, Nat.zero_add] at this
    · rename_i h10
      rw [parse_snoc _ _ _ _ (ih (u / 10) (by omega) (by omega)), one_digit _ _ (by omega) (by omega)]
      congr 1
      omega
theorem mag_digits (u : Nat) (h : u < 18446744073709551616) : parseMag (decDigits u) = .ok u := by
  unfold parseMag
  rw [if_neg (digits_ne u)]
  exact parse_digits u h
/-- A number's text has this number. -/
theorem atoi_itoa (n : Int) (h0 : -9223372036854775808 ≤ n) (h1 : n ≤ 9223372036854775807) : atoiAll (itoa n) = .ok n := by
  unfold itoa
  split
  · rename_i hn
    have hm := mag_digits n.natAbs (by omega)
    have e45 : (45 : UInt8).toNat = 45 := rfl
    simp only [atoiAll, e45, or_true, if_true, hm, not_true_eq_false, false_and, if_false, true_and]
    rw [if_neg (by omega)]
    congr 1
    omega
  · rename_i hn
    have hm := mag_digits n.toNat (by omega)
    obtain ⟨c, r, hc⟩ := List.exists_cons_of_ne_nil (digits_ne n.toNat)
    have hr := digits_rng n.toNat c (by rw [hc]; exact List.mem_cons_self)
    rw [hc] at hm ⊢
    have h43 : ¬ c.toNat = 43 := by omega
    have h45 : ¬ c.toNat = 45 := by omega
    simp only [atoiAll, h43, h45, or_self, if_false, hm, not_false_eq_true, true_and, false_and]
    rw [if_neg (by omega)]
    congr 1
    omega
end De
end Go.Proofs.YtjnonfcemicmoaaDoor
namespace Go.Proofs.YtjnonfcemicmoaaDoor.AE
open Go.RowKit De
abbrev inR (v : Int) : Prop := -9223372036854775808 ≤ v ∧ v ≤ 9223372036854775807
theorem dp_good {s : ByteArray} {v : Int} (hv : inR v) (h : s.data.toList = Lib.itoa v) : dpX s = v ∧ dpY s = 0 := by
  unfold dpX dpY
  rw [h, atoi_itoa v hv.1 hv.2]
  simp
theorem dp_bad {s : ByteArray} (h : ∀ v, inR v → ¬ s.data.toList = Lib.itoa v) : dpX s = 0 ∧ dpY s = 2 := by
  unfold dpX dpY
  rcases ha : Lib.atoiAll s.data.toList with v | _ | _
  · have hb := Lib.atoiAll_bounds ha
    have hn : ¬ Lib.itoa v = s.data.toList := fun e => h v hb e.symm
    simp [hn]
  · exact ⟨rfl, rfl⟩
  · exact ⟨rfl, rfl⟩
def nfS (n : Int) (c : UInt8) : Int := IntKind.wrap .i64 (IntKind.wrap .i64 (10 * n) - IntKind.wrap .i64 (IntKind.wrap .u8 ((c.toNat : Int) - 48)))
def nf (l : List UInt8) : Int := l.foldl nfS 0
theorem nf_digits (u : Nat) (h : u ≤ 9223372036854775808) : nf (Lib.decDigits u) = -(u : Int) := by
  induction u using Nat.strongRecOn with
  | _ u ih =>
    have one : ∀ (a i : Nat), i < 10 → a * 10 + i ≤ 9223372036854775808 → nfS (-(a : Int)) (UInt8.ofNat (48 + i)) = -((a * 10 + i : Nat) : Int) := by
      intro a i hi ha
      have e : (UInt8.ofNat (48 + i)).toNat = 48 + i := UInt8.toNat_ofNat_of_lt' (by show 48 + i < 256; omega)
      unfold nfS
      rw [e, IntKind.wrap_u8, IntKind.wrap_i64, IntKind.wrap_i64, IntKind.wrap_i64]
      omega
    rw [Lib.decDigits]
    split
    · rename_i h10
      have := one 0 u h10 (by omega)
      rw [Nat.zero_mul, Nat.zero_add] at this
      exact this
    · rename_i h10
      have := ih (u / 10) (by omega) (by omega)
      unfold nf at this ⊢
      rw [List.foldl_append, this]
      show nfS _ _ = _
      rw [one _ _ (by omega) (by omega)]
      congr 2
      omega
/-- The texts of numbers, by their first byte. -/
theorem good_by {s : ByteArray} {v : Int} (hv : inR v) (h : s.data.toList = Lib.itoa v) :
    (s.data.toList.head? = some 45 → ∃ u, u ≤ 9223372036854775808 ∧ s.data.toList = 45 :: Lib.decDigits u ∧ v = -(u : Int)) ∧ (¬ s.data.toList.head? = some 45 → ∃ u, u ≤ 9223372036854775807 ∧ s.data.toList = Lib.decDigits u ∧ v = (u : Int)) := by
  obtain ⟨h0, h1⟩ := hv
  unfold Lib.itoa at h
  split at h
  · rename_i hn
    refine ⟨fun _ => ⟨v.natAbs, by omega, h, by omega⟩, fun hh => absurd (by rw [h]; rfl) hh⟩
  · rename_i hn
    refine ⟨fun hh => ?_, fun _ => ⟨v.toNat, by omega, h, by omega⟩⟩
    exfalso
    rw [h] at hh
    have := digits_rng v.toNat 45 (List.mem_of_mem_head? hh)
    revert this
    decide
theorem digits_len (u : Nat) (h : u ≤ 9223372036854775808) : 1 ≤ (Lib.decDigits u).length ∧ (Lib.decDigits u).length ≤ 19 := by
  refine ⟨List.length_pos_iff.2 (digits_ne u), ?_⟩
  by_cases h0 : u = 0
  · subst h0; decide +kernel
  · have e : D10 u = Lib.decDigits u := if_neg h0
    rw [← e]
    refine D10_len u 19 ?_
    have : (10 : Nat) ^ 19 = 10000000000000000000 := by decide
    omega
end Go.Proofs.YtjnonfcemicmoaaDoor.AE
namespace Go.Proofs.YtjnonfcemicmoaaDoor.AE
open Go.RowKit De
theorem arr_getD (s : ByteArray) (i : Nat) : s.data.getD i 0 = s.data.toList.getD i 0 := by
  rw [Array.getD_eq_getD_getElem?, List.getD_eq_getElem?_getD, Array.getElem?_toList]
theorem size_list (s : ByteArray) : s.data.toList.length = s.size := by rw [Array.length_toList]; rfl
theorem good_drop {s : ByteArray} {f : Nat} (hf : (f = 1 ∧ s.data.toList.head? = some 45) ∨ (f = 0 ∧ ¬ s.data.toList.head? = some 45)) {v : Int} (hv : inR v) (h : s.data.toList = Lib.itoa v) :
    ∃ u, u ≤ 9223372036854775808 ∧ s.data.toList.drop f = Lib.decDigits u ∧ v = (if f = 0 then (u : Int) else -(u : Int)) ∧ (f = 0 → u ≤ 9223372036854775807) := by
  obtain ⟨g1, g2⟩ := good_by hv h
  rcases hf with ⟨rfl, hh⟩ | ⟨rfl, hh⟩
  · obtain ⟨u, u1, u2, u3⟩ := g1 hh
    exact ⟨u, u1, by rw [u2]; rfl, u3, fun h => by omega⟩
  · obtain ⟨u, u1, u2, u3⟩ := g2 hh
    exact ⟨u, by omega, u2, u3, fun _ => u1⟩
theorem add_one (k : Nat) (h : k ≤ 1000000) : IntKind.wrap .i64 ((k : Int) + 1) = ((k + 1 : Nat) : Int) := by
  rw [IntKind.wrap_i64]; omega
theorem sl_rp : slotsOf 8 = 60 := by kernel_rfl
theorem re_rp : resultsOf 8 = [.tmp 2, .tmp 3] := by kernel_rfl
theorem fl_rp : (flatten (bodyOf 8)).drop 8 = .block 0 (.loop (sub (bodyOf 8) [1, 1, 1, 1, 1, 0, 1, 0, 0])) :: (flatten (bodyOf 8)).drop 9 := by kernel_rfl
abbrev parQ (s : ByteArray) : Exit → List AV → AH → Prop := fun e a h => (e = .normal ∨ e = .ret) ∧ ansOk (fun r _ => r = .v (.tuple #[.int .i64 (dpX s), .int .i64 (dpY s)])) (resOf Tryd.prog nro [.tmp 2, .tmp 3] a h)
theorem beq_lists (l : List UInt8) (s : ByteArray) : ((⟨l.toArray⟩ : ByteArray).toList == s.toList) = decide (s.data.toList = l) := by
  rw [Bool.eq_iff_iff, beq_iff_eq, decide_eq_true_eq, ByteArray.toList_eq, ByteArray.toList_eq]
  exact ⟨fun h => h.symm, fun h => h.symm⟩
theorem wrap_rng (n : Int) : inR (IntKind.wrap .i64 n) := by
  unfold inR
  rw [IntKind.wrap_i64]
  omega
theorem tr_ploop (s : ByteArray) (hs : s.size ≤ 100000) (f : Nat) (hf : (f = 1 ∧ s.data.toList.head? = some 45) ∨ (f = 0 ∧ ¬ s.data.toList.head? = some 45)) (hfs : f ≤ s.size) :
    Trl Tryd.prog nro ((flatten (bodyOf 8)).drop 8) (pA s f 0 f) (hp [] []) (parQ s) := by
  rw [fl_rp]
  have hlen := size_list s
  have bad : ∀ i, f ≤ i → i < s.size → ¬ (48 ≤ (s.data.toList.getD i 0).toNat ∧ (s.data.toList.getD i 0).toNat ≤ 57) → dpX s = 0 ∧ dpY s = 2 := fun i h1 h2 h3 => dp_bad fun v hv hg => by
    obtain ⟨u, _, u2, _, _⟩ := good_drop hf hv hg
    refine h3 (digits_rng u _ ?_)
    rw [← u2]
    have : s.data.toList.getD i 0 = (s.data.toList.drop f)[i - f]'(by rw [List.length_drop]; omega) := by
      rw [List.getElem_drop, List.getD_eq_getElem?_getD, List.getElem?_eq_getElem (by omega), Option.getD_some]
      congr 1
      omega
    rw [this]
    exact List.getElem_mem _
  let I : Nat → List AV → AH → Prop := fun m act H => ∃ (i : Nat) (n : Int), f ≤ i ∧ i ≤ s.size ∧ m = s.size - i ∧ n = nf ((s.data.toList.drop f).take (i - f)) ∧ act = pA s f n i ∧ H = hp [] []
  refine Tr.block (Tr.loop I ?_ (m := s.size - f) ⟨f, 0, Nat.le_refl _, hfs, rfl, by rw [Nat.sub_self]; rfl, rfl, rfl⟩)
  rintro m act H ⟨i, n, h1, h2, rfl, hn, rfl, rfl⟩
  have body := fun R => p_in s f n i R
  rw [add_one i (by omega), Int.toNat_natCast, arr_getD] at body
  obtain ⟨c, hc⟩ : ∃ c, c = s.data.toList.getD i 0 := ⟨_, rfl⟩
  have cd : i < s.size → decide ((0 : Int) ≤ (i : Int) ∧ i < s.size) = true := fun h => decide_eq_true ⟨Int.natCast_nonneg i, h⟩
  rw [← hc] at body
  have badi := bad i h1
  rw [← hc] at badi
  refine Tr.of_code (knownN nro) (body _) (holds_bif (fun h8 => ?_) (fun h8 => ⟨trivial, ?_⟩))
  · have h8 := of_decide_eq_true h8
    have hlt : i < s.size := by omega
    refine holds_bif (fun ha => ⟨?_, ?_⟩) (fun ha => holds_bif (fun hb => ⟨?_, ?_⟩) (fun hb => ⟨?_, ?_⟩))
    · with_reducible exact cdb_iff.2 ⟨trivial, cd hlt⟩
    · have ha := of_decide_eq_true ha
      obtain ⟨x1, x2⟩ := badi hlt (by omega)
      refine ⟨.inr rfl, trivial, ?_⟩
      show AV.v (.tuple #[.int .i64 0, .int .i64 2]) = _
      rw [x1, x2]
    · with_reducible exact cdb_iff.2 ⟨cdb_iff.2 ⟨trivial, cd hlt⟩, cd hlt⟩
    · have hb := of_decide_eq_true hb
      obtain ⟨x1, x2⟩ := badi hlt (by omega)
      refine ⟨.inr rfl, trivial, ?_⟩
      show AV.v (.tuple #[.int .i64 0, .int .i64 2]) = _
      rw [x1, x2]
    · with_reducible exact cdb_iff.2 ⟨cdb_iff.2 ⟨cdb_iff.2 ⟨trivial, cd hlt⟩, cd hlt⟩, cd hlt⟩
    · refine ⟨s.size - (i + 1), by omega, i + 1, _, by omega, by omega, rfl, ?_, rfl, rfl⟩
      have ht : (s.data.toList.drop f).take (i + 1 - f) = (s.data.toList.drop f).take (i - f) ++ [c] := by
        rw [show i + 1 - f = (i - f) + 1 by omega, List.take_add_one, List.getElem?_drop, show f + (i - f) = i by omega, List.getElem?_eq_getElem (by omega), hc, List.getD_eq_getElem?_getD, List.getElem?_eq_getElem (by omega)]
        rfl
      rw [ht]
      show _ = List.foldl nfS 0 _
      rw [List.foldl_append]
      show _ = nfS (nf _) c
      rw [← hn]
      rfl
  · have h8 := of_decide_eq_false h8
    obtain rfl : i = s.size := by omega
    have hall : (s.data.toList.drop f).take (s.size - f) = s.data.toList.drop f := List.take_of_length_le (by rw [List.length_drop]; omega)
    rw [hall] at hn
    show Trl _ _ ((flatten (bodyOf 8)).drop 9) _ _ _
    have post := fun R => p_post s f n s.size R
    rw [beq_lists, beq_lists] at post
    /- what is at last compared -/
    have fin : ∀ N : Int, inR N → (∀ u : Nat, s.data.toList.drop f = Lib.decDigits u → u ≤ 9223372036854775808 → (f = 0 → u ≤ 9223372036854775807) → N = (if f = 0 then (u : Int) else -(u : Int))) → (¬ s.data.toList = Lib.itoa N → dpX s = 0 ∧ dpY s = 2) ∧ (s.data.toList = Lib.itoa N → dpX s = N ∧ dpY s = 0) := fun N hN hu =>
      ⟨fun hne => dp_bad fun v hv hg => by
        obtain ⟨u, u1, u2, u3, u4⟩ := good_drop hf hv hg
        rw [u3, ← hu u u2 u1 u4] at hg
        exact hne hg, fun he => dp_good hN he⟩
    have hnr : inR n := by
      rw [hn]
      have : ∀ (l : List UInt8) (a : Int), inR a → inR (l.foldl nfS a) := by
        intro l
        induction l with
        | nil => intro a h; exact h
        | cons c l ih => intro a _; exact ih _ (wrap_rng _)
      exact this _ 0 (by unfold inR; omega)
    refine Trl.of_code (knownN nro) (ne_nil (by kernel_rfl)) (post _) (holds_bif (fun h0 => ?_) (fun h0 => ?_))
    · have h0 : (f : Int) = 0 := eq_of_beq h0
      have hf0 : f = 0 := by omega
      have hr := wrap_rng (0 - n)
      obtain ⟨x1, x2⟩ := fin (IntKind.wrap .i64 (0 - n)) hr (fun u hu hu1 hu2 => by
        rw [if_pos hf0, hn, hu, nf_digits u hu1, IntKind.wrap_i64]
        have := hu2 hf0
        omega)
      refine holds_bif (fun he => ⟨?_, .inr rfl, trivial, ?_⟩) (fun he => ⟨?_, .inr rfl, trivial, ?_⟩)
      · with_reducible exact cdb_iff.2 ⟨trivial, decide_eq_true hr⟩
      · obtain ⟨y1, y2⟩ := x1 (by simpa using he)
        show AV.v (.tuple #[.int .i64 0, .int .i64 2]) = _
        rw [y1, y2]
      · with_reducible exact cdb_iff.2 ⟨trivial, decide_eq_true hr⟩
      · obtain ⟨y1, y2⟩ := x2 (by simpa using he)
        show AV.v (.tuple #[.int .i64 (IntKind.wrap .i64 (0 - n)), .int .i64 0]) = _
        rw [y1, y2]
    · have h0 : ¬ (f : Int) = 0 := ne_of_beq_false h0
      have hf0 : ¬ f = 0 := by omega
      obtain ⟨x1, x2⟩ := fin n hnr (fun u hu hu1 hu2 => by
        rw [if_neg hf0, hn, hu, nf_digits u hu1])
      refine holds_bif (fun he => ⟨?_, .inr rfl, trivial, ?_⟩) (fun he => ⟨?_, .inr rfl, trivial, ?_⟩)
      · with_reducible exact cdb_iff.2 ⟨trivial, decide_eq_true hnr⟩
      · obtain ⟨y1, y2⟩ := x1 (by simpa using he)
        show AV.v (.tuple #[.int .i64 0, .int .i64 2]) = _
        rw [y1, y2]
      · with_reducible exact cdb_iff.2 ⟨trivial, decide_eq_true hnr⟩
      · obtain ⟨y1, y2⟩ := x2 (by simpa using he)
        show AV.v (.tuple #[.int .i64 n, .int .i64 0]) = _
        rw [y1, y2]
theorem fs_rparse (s : ByteArray) (hs : s.size ≤ 100000) : Fs Tryd.prog nro 8 [.v (.string s)] (hp [] []) fun r _ => r = .v (.tuple #[.int .i64 (dpX s), .int .i64 (dpY s)]) := by
  refine Fs.of_body (has_fn (by kernel_rfl)) ?_
  rw [sl_rp, re_rp]
  have hlen := size_list s
  have hhead : 0 < s.size → (s.data.toList.head? = some 45 ↔ ((s.data.getD 0 0).toNat : Int) = 45) := fun h => by
    rw [arr_getD]
    cases e : s.data.toList with
    | nil => rw [e] at hlen; simp at hlen; omega
    | cons c r =>
      show some c = some 45 ↔ ((c.toNat : Nat) : Int) = 45
      constructor
      · intro h; cases h; rfl
      · intro h; rw [show c = 45 from UInt8.toNat_inj.1 (by show c.toNat = 45; omega)]
  have short : ∀ f, ((f = 1 ∧ s.data.toList.head? = some 45) ∨ (f = 0 ∧ ¬ s.data.toList.head? = some 45)) → (s.size = f ∨ f + 19 < s.size) → dpX s = 0 ∧ dpY s = 2 := fun f hf hh => dp_bad fun v hv hg => by
    obtain ⟨u, u1, u2, _, _⟩ := good_drop hf hv hg
    have l1 := digits_len u u1
    rw [← u2, List.length_drop, hlen] at l1
    omega
  have ret2 : ∀ f, ((f = 1 ∧ s.data.toList.head? = some 45) ∨ (f = 0 ∧ ¬ s.data.toList.head? = some 45)) → (s.size = f ∨ f + 19 < s.size) → AV.v (.tuple #[.int .i64 0, .int .i64 2]) = AV.v (.tuple #[.int .i64 (dpX s), .int .i64 (dpY s)]) := fun f hf hh => by
    obtain ⟨y1, y2⟩ := short f hf hh
    rw [y1, y2]
  have cd : 0 < s.size → decide ((0 : Int) ≤ 0 ∧ 0 < s.size) = true := fun h => decide_eq_true ⟨by decide, h⟩
  refine Tr.of_flat (Trl.split 8 (Trl.of_code (knownN nro) (ne_nil (by kernel_rfl)) (p_pre s _) (holds_bif (fun h1 => holds_bif (fun h2 => ?_) (fun h2 => ?_)) (fun h1 => ?_))))
  · have h1 := of_decide_eq_true h1
    have hp0 : 0 < s.size := by omega
    have hf : (1 = 1 ∧ s.data.toList.head? = some 45) ∨ (1 = 0 ∧ ¬ s.data.toList.head? = some 45) := .inl ⟨rfl, (hhead hp0).2 (eq_of_beq h2)⟩
    refine holds_bif (fun h3 => ⟨by with_reducible exact cdb_iff.2 ⟨trivial, cd hp0⟩, .inr rfl, trivial, ret2 1 hf (.inl (by have := eq_of_beq h3; omega))⟩) (fun h3 => holds_bif (fun h4 => ⟨by with_reducible exact cdb_iff.2 ⟨trivial, cd hp0⟩, .inr rfl, trivial, ret2 1 hf (.inr (by have := of_decide_eq_true h4; omega))⟩) (fun h4 => ⟨by with_reducible exact cdb_iff.2 ⟨trivial, cd hp0⟩, ?_⟩))
    show Trl _ _ ((flatten (bodyOf 8)).drop 8) _ _ _
    exact Tr.keepL [0, 4, 5, 6] rfl (tr_ploop s hs 1 hf hp0)
  · have h1 := of_decide_eq_true h1
    have hp0 : 0 < s.size := by omega
    have hf : (0 = 1 ∧ s.data.toList.head? = some 45) ∨ (0 = 0 ∧ ¬ s.data.toList.head? = some 45) := .inr ⟨rfl, fun h => ne_of_beq_false h2 ((hhead hp0).1 h)⟩
    refine holds_bif (fun h3 => ⟨by with_reducible exact cdb_iff.2 ⟨trivial, cd hp0⟩, .inr rfl, trivial, ret2 0 hf (.inl (by have := eq_of_beq h3; omega))⟩) (fun h3 => holds_bif (fun h4 => ⟨by with_reducible exact cdb_iff.2 ⟨trivial, cd hp0⟩, .inr rfl, trivial, ret2 0 hf (.inr (by have := of_decide_eq_true h4; omega))⟩) (fun h4 => ⟨by with_reducible exact cdb_iff.2 ⟨trivial, cd hp0⟩, ?_⟩))
    show Trl _ _ ((flatten (bodyOf 8)).drop 8) _ _ _
    exact Tr.keepL [0, 4, 5, 6] rfl (tr_ploop s hs 0 hf (Nat.zero_le _))
  · have h1 := of_decide_eq_false h1
    have hz : s.size = 0 := by omega
    have hnil : s.data.toList = [] := List.eq_nil_of_length_eq_zero (by rw [hlen, hz])
    have hf : (0 = 1 ∧ s.data.toList.head? = some 45) ∨ (0 = 0 ∧ ¬ s.data.toList.head? = some 45) := .inr ⟨rfl, by rw [hnil]; simp⟩
    refine holds_bif (fun h3 => ⟨trivial, .inr rfl, trivial, ret2 0 hf (.inl hz)⟩) (fun h3 => ?_)
    exact absurd (ne_of_beq_false h3) (by rw [hz]; simp)
def rparseP : List Value → Option (Value × Bool) := fun us => match us with
  | [.string s] => some (.tuple #[.int .i64 (dpX s), .int .i64 (dpY s)], decide (s.size ≤ 100000))
  | _ => none
theorem rparse_ok (ro : Nat → Option (List Value)) : ∀ args H r H', pure? rparseP args H = some (r, H') → HSound1 Tryd.prog ro 8 args H r H' := by
  refine pure_ok (fun us c hs => Fs.ro ?_ ro) (has_fn (by kernel_rfl))
  unfold rparseP at hs
  split at hs
  · simp only [Option.some.injEq, Prod.mk.injEq, decide_eq_true_eq] at hs
    obtain ⟨rfl, h⟩ := hs
    exact fs_rparse _ h
  · cases hs
end Go.Proofs.YtjnonfcemicmoaaDoor.AE
namespace Go.Proofs.YtjnonfcemicmoaaDoor.AE
open Go.RowKit
theorem fs_awake5 (tS tR : TypeId) (pS pR : Value) : Fs Tryd.prog (ro05 tS pS tR pR) 6 [] (hp [] []) fun r _ => r = .v (.bool true) :=
  Fs.of_call (knownC _) (t_awake tS tR pS pR fun r => r = .v (.bool true)) (by repeat' first | exact rfl | exact trivial | refine ⟨?_, ?_⟩)
theorem awake5_ok {tS tR : TypeId} {pS pR : Value} : ∀ args H r H', pure? awakeS args H = some (r, H') → HSound1 Tryd.prog (ro05 tS pS tR pR) 6 args H r H' := by
  refine pure_ok (fun us c hs => ?_) (has_fn (by kernel_rfl))
  unfold awakeS at hs
  split at hs
  · cases hs; exact fs_awake5 _ _ _ _
  · cases hs
def hexF (f : Int → ByteArray) : List Value → Option (Value × Bool) := fun us => match us with
  | [.int .u64 x] => some (.string (f x), decide (0 ≤ x ∧ x < 18446744073709551616))
  | _ => none
theorem hexF_eq : hexF hexS = hexP := rfl
noncomputable def prQ (f : Int → ByteArray) : FuncId → Option (List AV → AH → Ans) := fun g => match g with
  | 11 => some (pure? textP)
  | 7 => some (pure? parseP)
  | 13 => some (pure? (hexF f))
  | 9 => some (pure? phP)
  | 12 => some (pure? rtextP)
  | 8 => some (pure? rparseP)
  | 14 => some (pure? (hexF f))
  | 10 => some (pure? phP)
  | 6 => some (pure? awakeS)
  | _ => none
theorem knownQ {tS tR : TypeId} {pS pR : Value} : Known (ro05 tS pS tR pR) (prQ hexS) := by
  intro g p h
  unfold prQ at h
  split at h
  · cases h; exact text_ok
  · cases h; exact parse_ok
  · cases h; rw [hexF_eq]; exact hex_ok
  · cases h; exact ph_ok
  · cases h; exact rtext_ok _
  · cases h; exact rparse_ok _
  · cases h; rw [hexF_eq]; exact rhex_ok _
  · cases h; exact rph_ok _
  · cases h; exact awake5_ok
  · cases h
end Go.Proofs.YtjnonfcemicmoaaDoor.AE
namespace Go.Proofs.YtjnonfcemicmoaaDoor.AE
open Go.RowKit
noncomputable def prS : FuncId → Option (List AV → AH → Ans) := fun g => match g with
  | 11 => some (pure? textP)
  | 7 => some (pure? parseP)
  | 12 => some (pure? rtextP)
  | 8 => some (pure? rparseP)
  | 25 => some (tot? joinV joinOk)
  | 23 => some (tot? splitV splitOk)
  | _ => none
abbrev roS (m : Int) (tS : TypeId) (pS : Value) (tR : TypeId) (pR : Value) : Nat → Option (List Value) := roM 4 [.int .i64 m] (ro05 tS pS tR pR)
theorem roS_le (m : Int) (tS : TypeId) (pS : Value) (tR : TypeId) (pR : Value) : ∀ G W, Ro (roS m tS pS tR pR) G W → Ro (ro05 tS pS tR pR) G W := fun _ _ => roM_le rfl
theorem knownS {m : Int} {tS tR : TypeId} {pS pR : Value} : Known (roS m tS pS tR pR) prS := by
  intro g p h
  unfold prS at h
  split at h
  · cases h; exact fun _ _ _ _ h => (text_ok _ _ _ _ h).ro (roS_le _ _ _ _ _)
  · cases h; exact fun _ _ _ _ h => (parse_ok _ _ _ _ h).ro (roS_le _ _ _ _ _)
  · cases h; exact rtext_ok _
  · cases h; exact rparse_ok _
  · cases h; exact join_ok _
  · cases h; exact split_ok _ _
  · cases h
def tx (n : Int) : ByteArray := ⟨(Lib.itoa n).toArray⟩
def lA (zs : List Int) (i n : Int) (x : AV) : List AV := [.lst 1 (zs.map gi) .no, .dead, .dead, x] ++ List.replicate 8 .dead ++ [.lst 1 (zs.map gi) .no, .v (.int .i64 n), .v (.int .i64 i)] ++ List.replicate 11 .dead
def rA (zs : List Int) (s : ByteArray) (i : Int) : List AV := [.lst 1 (zs.map gi) .no, .dead, .dead, .v (.string s), .v (.int .i64 i)] ++ List.replicate 21 .dead
theorem l_pre (m : Int) (tS tR : TypeId) (pS pR : Value) (zs : List Int) (R : Exit → List AV → AH → Prop) : codeL (roS m tS pS tR pR) (fun _ => false) prS 5 ((flatten (bodyOf 17)).take 5) ([.lst 1 (zs.map gi) .no] ++ List.replicate 25 (.v undef)) (hp [] []) (kp [0, 2, 3, 12, 13, 14] R) =
    (bif (((List.length (List.map gi zs)) : Int) == (0 : Int)) then (some (True ∧ (R Exit.ret [(AV.lst (1 : Nat) (List.map gi zs) Tip.no), AV.dead, (AV.v (Value.string (ByteArray.mk #[(@OfNat.ofNat UInt8 (45 : Nat) (@UInt8.instOfNat 45))]))), (AV.v (Value.tuple (Array.mk (@List.nil Go.Value)))), AV.dead, AV.dead, AV.dead, AV.dead, AV.dead, AV.dead, AV.dead, AV.dead, (AV.v (Value.tuple (Array.mk (@List.nil Go.Value)))), (AV.v (Value.tuple (Array.mk (@List.nil Go.Value)))), (AV.v (Value.tuple (Array.mk (@List.nil Go.Value)))), AV.dead, AV.dead, AV.dead, AV.dead, AV.dead, AV.dead, AV.dead, AV.dead, AV.dead, AV.dead, AV.dead] (AH.mk (@List.nil (Prod Go.TypeId (List AV))) (@List.nil Nat) (0 : Nat) (0 : Nat) true (@List.nil (Prod Nat Bool)) True)))) else (some ((cdb True (decide (((0 : Int) ≤ ((List.length (List.map gi zs)) : Int)) ∧ ((((16 : Int) * ((List.length (List.map gi zs)) : Int)) ≤ (140737488355328 : Int)) ∧ (((List.length (List.map gi zs)) : Int) ≤ (9223372036854775807 : Int)))))) ∧ (R Exit.normal [(AV.lst (1 : Nat) (List.map gi zs) Tip.no), AV.dead, (AV.v (Value.string (ByteArray.mk (Array.mk (@List.nil UInt8))))), (AV.lst (1 : Nat) (@List.nil AV) (Tip.tp (List.length (@List.nil Nat)) (0 : Nat))), AV.dead, AV.dead, AV.dead, AV.dead, AV.dead, AV.dead, AV.dead, AV.dead, (AV.lst (1 : Nat) (List.map gi zs) Tip.no), (AV.v (Value.int IntKind.i64 ((List.length (List.map gi zs)) : Int))), (AV.v (Value.int IntKind.i64 (0 : Int))), AV.dead, AV.dead, AV.dead, AV.dead, AV.dead, AV.dead, AV.dead, AV.dead, AV.dead, AV.dead, AV.dead] (AH.mk (@List.nil (Prod Go.TypeId (List AV))) [(0 : Nat)] (0 : Nat) (0 : Nat) true (@List.nil (Prod Nat Bool)) True))))) := by kernel_rfl
theorem l_in (m : Int) (tS tR : TypeId) (pS pR : Value) (zs : List Int) (i n : Int) (ss : List ByteArray) (ver : Nat) (R : Exit → List AV → AH → Prop) : code (roS m tS pS tR pR) (fun _ => false) prS 5 (sub (bodyOf 17) [1, 1, 1, 0, 1, 0, 0]) (lA zs i n (.lst 1 (ss.map sv) (.tp 0 ver))) (hp [] [ver]) (kp [0, 3, 12, 13, 14] R) =
    (bif (decide (i < n)) then (some ((cdb (cdb (cds True (elemB Tryd.prog (3 : Nat) (List.map gi zs) i) (((0 : Int) ≤ i) ∧ (((List.map gi zs)[(Int.toNat i)]?) = (some (AV.v (Value.int IntKind.i64 (exInt (List.getD (List.map gi zs) (Int.toNat i) AV.dead)))))))) (decide (((-(9223372036854775808 : Int)) ≤ (exInt (List.getD (List.map gi zs) (Int.toNat i) AV.dead))) ∧ ((exInt (List.getD (List.map gi zs) (Int.toNat i) AV.dead)) ≤ (9223372036854775807 : Int))))) (decide ((((((List.length (List.map sv ss)) + (List.length [(AV.v (Value.string (ByteArray.mk (Array.mk (Go.Lib.itoa (exInt (List.getD (List.map gi zs) (Int.toNat i) AV.dead)))))))])) * (16 : Nat)) ≤ (140737488355328 : Nat)) ∧ (((List.length (List.map sv ss)) + (List.length [(AV.v (Value.string (ByteArray.mk (Array.mk (Go.Lib.itoa (exInt (List.getD (List.map gi zs) (Int.toNat i) AV.dead)))))))])) ≤ (9223372036854775807 : Nat))) ∧ (ver = ver)))) ∧ (R Exit.normal [(AV.lst (1 : Nat) (List.map gi zs) Tip.no), AV.dead, AV.dead, (AV.lst (1 : Nat) ((List.map sv ss) ++ [(AV.v (Value.string (ByteArray.mk (Array.mk (Go.Lib.itoa (exInt (List.getD (List.map gi zs) (Int.toNat i) AV.dead)))))))]) (Tip.tp (0 : Nat) (ver + (1 : Nat)))), AV.dead, AV.dead, AV.dead, AV.dead, AV.dead, AV.dead, AV.dead, AV.dead, (AV.lst (1 : Nat) (List.map gi zs) Tip.no), (AV.v (Value.int IntKind.i64 n)), (AV.v (Value.int IntKind.i64 (IntKind.wrap IntKind.i64 (i + (1 : Int))))), AV.dead, AV.dead, AV.dead, AV.dead, AV.dead, AV.dead, AV.dead, AV.dead, AV.dead, AV.dead, AV.dead] (AH.mk (@List.nil (Prod Go.TypeId (List AV))) [(ver + (1 : Nat))] (0 : Nat) (0 : Nat) true (@List.nil (Prod Nat Bool)) True)))) else (some (True ∧ (R (Exit.exit (0 : Nat)) [(AV.lst (1 : Nat) (List.map gi zs) Tip.no), AV.dead, AV.dead, (AV.lst (1 : Nat) (List.map sv ss) (Tip.tp (0 : Nat) ver)), AV.dead, AV.dead, AV.dead, AV.dead, AV.dead, AV.dead, AV.dead, AV.dead, (AV.lst (1 : Nat) (List.map gi zs) Tip.no), (AV.v (Value.int IntKind.i64 n)), (AV.v (Value.int IntKind.i64 i)), AV.dead, AV.dead, AV.dead, AV.dead, AV.dead, AV.dead, AV.dead, AV.dead, AV.dead, AV.dead, AV.dead] (AH.mk (@List.nil (Prod Go.TypeId (List AV))) [ver] (0 : Nat) (0 : Nat) true (@List.nil (Prod Nat Bool)) True))))) := by kernel_rfl
theorem l_post (m : Int) (tS tR : TypeId) (pS pR : Value) (zs : List Int) (i n : Int) (ss : List ByteArray) (ver : Nat) (R : Exit → List AV → AH → Prop) : codeL (roS m tS pS tR pR) (fun _ => false) prS 5 ((flatten (bodyOf 17)).drop 6) (lA zs i n (.lst 1 (ss.map sv) (.tp 0 ver))) (hp [] [ver]) (kp [2] R) =
    (some ((cdb True (joinOk [(AV.lst (1 : Nat) (List.map sv ss) (Tip.tp (0 : Nat) ver)), (AV.v (Value.string (ByteArray.mk #[(@OfNat.ofNat UInt8 (44 : Nat) (@UInt8.instOfNat 44))])))])) ∧ (R Exit.ret [AV.dead, AV.dead, (AV.v (Value.string (joinV.match_1 (fun (x : (Option (Prod ByteArray Bool))) => ByteArray) (joinP.match_1 (fun (x : (List AV)) => (Option (Prod ByteArray Bool))) [(AV.lst (1 : Nat) (List.map sv ss) (Tip.tp (0 : Nat) ver)), (AV.v (Value.string (ByteArray.mk #[(@OfNat.ofNat UInt8 (44 : Nat) (@UInt8.instOfNat 44))])))] (fun (xs : (List AV)) => (fun (x : Tip) => (fun (sep : ByteArray) => (strs?.match_1 (fun (x : (Option (List ByteArray))) => (Option (Prod ByteArray Bool))) (strs? xs) (fun (l : (List ByteArray)) => (some ((ByteArray.mk (Array.mk (List.flatten (List.intersperse (Array.toList (ByteArray.data sep)) (List.map (fun (x : ByteArray) => (Array.toList (ByteArray.data x))) l))))), (decide (((List.length l) ≤ (140737488355328 : Nat)) ∧ ((ByteArray.size (ByteArray.mk (Array.mk (List.flatten (List.intersperse (Array.toList (ByteArray.data sep)) (List.map (fun (x : ByteArray) => (Array.toList (ByteArray.data x))) l)))))) ≤ (140737488355328 : Nat))))))) (fun (_ : Unit) => none))))) (fun (x : (List AV)) => none)) (fun (r : (Prod ByteArray Bool)) => (r).1) (fun (_ : Unit) => (ByteArray.mk (Array.mk (@List.nil UInt8))))))), AV.dead, AV.dead, AV.dead, AV.dead, AV.dead, AV.dead, AV.dead, AV.dead, AV.dead, AV.dead, AV.dead, AV.dead, AV.dead, AV.dead, AV.dead, AV.dead, AV.dead, AV.dead, AV.dead, AV.dead, AV.dead, AV.dead, AV.dead] (AH.mk (@List.nil (Prod Go.TypeId (List AV))) [ver] (0 : Nat) (0 : Nat) true (@List.nil (Prod Nat Bool)) True)))) := by kernel_rfl
theorem rl_pre (zs : List Int) (R : Exit → List AV → AH → Prop) : codeL nro (fun _ => false) prN 5 ((flatten (bodyOf 18)).take 3) ([.lst 1 (zs.map gi) .no] ++ List.replicate 25 (.v undef)) (hp [] []) (kp [0, 3, 4] R) =
    (some (True ∧ (R Exit.normal [(AV.lst (1 : Nat) (List.map gi zs) Tip.no), AV.dead, AV.dead, (AV.v (Value.string (ByteArray.mk (Array.mk (@List.nil UInt8))))), (AV.v (Value.int IntKind.i64 (0 : Int))), AV.dead, AV.dead, AV.dead, AV.dead, AV.dead, AV.dead, AV.dead, AV.dead, AV.dead, AV.dead, AV.dead, AV.dead, AV.dead, AV.dead, AV.dead, AV.dead, AV.dead, AV.dead, AV.dead, AV.dead, AV.dead] (AH.mk (@List.nil (Prod Go.TypeId (List AV))) (@List.nil Nat) (0 : Nat) (0 : Nat) true (@List.nil (Prod Nat Bool)) True)))) := by kernel_rfl
theorem rl_in (zs : List Int) (s : ByteArray) (i : Int) (R : Exit → List AV → AH → Prop) : code nro (fun _ => false) prN 5 (sub (bodyOf 18) [1, 1, 0, 1, 0, 0]) (rA zs s i) (hp [] []) (kp [0, 3, 4] R) =
    (bif (decide (i < ((List.length (List.map gi zs)) : Int))) then (bif (decide ((0 : Int) < i)) then (some ((cdb (cdb (cds (cdb True (decide (((ByteArray.size s) + (1 : Nat)) ≤ (9223372036854775807 : Nat)))) (elemB Tryd.prog (3 : Nat) (List.map gi zs) i) (((0 : Int) ≤ i) ∧ (((List.map gi zs)[(Int.toNat i)]?) = (some (AV.v (Value.int IntKind.i64 (exInt (List.getD (List.map gi zs) (Int.toNat i) AV.dead)))))))) (decide (((-(9223372036854775808 : Int)) ≤ (exInt (List.getD (List.map gi zs) (Int.toNat i) AV.dead))) ∧ ((exInt (List.getD (List.map gi zs) (Int.toNat i) AV.dead)) ≤ (9223372036854775807 : Int))))) (decide (((ByteArray.size (s ++ (ByteArray.mk #[(@OfNat.ofNat UInt8 (44 : Nat) (@UInt8.instOfNat 44))]))) + (ByteArray.size (ByteArray.mk (Array.mk (Go.Lib.itoa (exInt (List.getD (List.map gi zs) (Int.toNat i) AV.dead))))))) ≤ (9223372036854775807 : Nat)))) ∧ (R Exit.normal [(AV.lst (1 : Nat) (List.map gi zs) Tip.no), AV.dead, AV.dead, (AV.v (Value.string ((s ++ (ByteArray.mk #[(@OfNat.ofNat UInt8 (44 : Nat) (@UInt8.instOfNat 44))])) ++ (ByteArray.mk (Array.mk (Go.Lib.itoa (exInt (List.getD (List.map gi zs) (Int.toNat i) AV.dead)))))))), (AV.v (Value.int IntKind.i64 (IntKind.wrap IntKind.i64 (i + (1 : Int))))), AV.dead, AV.dead, AV.dead, AV.dead, AV.dead, AV.dead, AV.dead, AV.dead, AV.dead, AV.dead, AV.dead, AV.dead, AV.dead, AV.dead, AV.dead, AV.dead, AV.dead, AV.dead, AV.dead, AV.dead, AV.dead] (AH.mk (@List.nil (Prod Go.TypeId (List AV))) (@List.nil Nat) (0 : Nat) (0 : Nat) true (@List.nil (Prod Nat Bool)) True)))) else (some ((cdb (cdb (cds True (elemB Tryd.prog (3 : Nat) (List.map gi zs) i) (((0 : Int) ≤ i) ∧ (((List.map gi zs)[(Int.toNat i)]?) = (some (AV.v (Value.int IntKind.i64 (exInt (List.getD (List.map gi zs) (Int.toNat i) AV.dead)))))))) (decide (((-(9223372036854775808 : Int)) ≤ (exInt (List.getD (List.map gi zs) (Int.toNat i) AV.dead))) ∧ ((exInt (List.getD (List.map gi zs) (Int.toNat i) AV.dead)) ≤ (9223372036854775807 : Int))))) (decide (((ByteArray.size s) + (ByteArray.size (ByteArray.mk (Array.mk (Go.Lib.itoa (exInt (List.getD (List.map gi zs) (Int.toNat i) AV.dead))))))) ≤ (9223372036854775807 : Nat)))) ∧ (R Exit.normal [(AV.lst (1 : Nat) (List.map gi zs) Tip.no), AV.dead, AV.dead, (AV.v (Value.string (s ++ (ByteArray.mk (Array.mk (Go.Lib.itoa (exInt (List.getD (List.map gi zs) (Int.toNat i) AV.dead)))))))), (AV.v (Value.int IntKind.i64 (IntKind.wrap IntKind.i64 (i + (1 : Int))))), AV.dead, AV.dead, AV.dead, AV.dead, AV.dead, AV.dead, AV.dead, AV.dead, AV.dead, AV.dead, AV.dead, AV.dead, AV.dead, AV.dead, AV.dead, AV.dead, AV.dead, AV.dead, AV.dead, AV.dead, AV.dead] (AH.mk (@List.nil (Prod Go.TypeId (List AV))) (@List.nil Nat) (0 : Nat) (0 : Nat) true (@List.nil (Prod Nat Bool)) True))))) else (some (True ∧ (R (Exit.exit (0 : Nat)) [(AV.lst (1 : Nat) (List.map gi zs) Tip.no), AV.dead, AV.dead, (AV.v (Value.string s)), (AV.v (Value.int IntKind.i64 i)), AV.dead, AV.dead, AV.dead, AV.dead, AV.dead, AV.dead, AV.dead, AV.dead, AV.dead, AV.dead, AV.dead, AV.dead, AV.dead, AV.dead, AV.dead, AV.dead, AV.dead, AV.dead, AV.dead, AV.dead, AV.dead] (AH.mk (@List.nil (Prod Go.TypeId (List AV))) (@List.nil Nat) (0 : Nat) (0 : Nat) true (@List.nil (Prod Nat Bool)) True))))) := by kernel_rfl
theorem rl_post (zs : List Int) (s : ByteArray) (i : Int) (R : Exit → List AV → AH → Prop) : codeL nro (fun _ => false) prN 5 ((flatten (bodyOf 18)).drop 4) (rA zs s i) (hp [] []) (kp [2] R) =
    (bif (((List.length (List.map gi zs)) : Int) == (0 : Int)) then (some (True ∧ (R Exit.ret [AV.dead, AV.dead, (AV.v (Value.string (ByteArray.mk #[(@OfNat.ofNat UInt8 (45 : Nat) (@UInt8.instOfNat 45))]))), AV.dead, AV.dead, AV.dead, AV.dead, AV.dead, AV.dead, AV.dead, AV.dead, AV.dead, AV.dead, AV.dead, AV.dead, AV.dead, AV.dead, AV.dead, AV.dead, AV.dead, AV.dead, AV.dead, AV.dead, AV.dead, AV.dead, AV.dead] (AH.mk (@List.nil (Prod Go.TypeId (List AV))) (@List.nil Nat) (0 : Nat) (0 : Nat) true (@List.nil (Prod Nat Bool)) True)))) else (some (True ∧ (R Exit.ret [AV.dead, AV.dead, (AV.v (Value.string s)), AV.dead, AV.dead, AV.dead, AV.dead, AV.dead, AV.dead, AV.dead, AV.dead, AV.dead, AV.dead, AV.dead, AV.dead, AV.dead, AV.dead, AV.dead, AV.dead, AV.dead, AV.dead, AV.dead, AV.dead, AV.dead, AV.dead, AV.dead] (AH.mk (@List.nil (Prod Go.TypeId (List AV))) (@List.nil Nat) (0 : Nat) (0 : Nat) true (@List.nil (Prod Nat Bool)) True))))) := by kernel_rfl
end Go.Proofs.YtjnonfcemicmoaaDoor.AE
namespace Go.Proofs.YtjnonfcemicmoaaDoor.AE
open Go.RowKit
theorem inter_snoc (sep x : List UInt8) : ∀ (l : List (List UInt8)), l ≠ [] → ((l ++ [x]).intersperse sep).flatten = (l.intersperse sep).flatten ++ sep ++ x
  | [], h => absurd rfl h
  | [y], _ => by simp
  | y :: z :: l, _ => by
    have ih := inter_snoc sep x (z :: l) (by simp)
    have e : ((y :: z :: l) ++ [x]).intersperse sep = y :: sep :: ((z :: l) ++ [x]).intersperse sep := by cases l <;> rfl
    rw [e, show (y :: z :: l).intersperse sep = y :: sep :: (z :: l).intersperse sep from rfl]
    simp only [List.flatten_cons, ih, List.append_assoc]
theorem ba_ext {a b : ByteArray} (h : a.data.toList = b.data.toList) : a = b := ByteArray.ext (Array.toList_inj.1 h)
theorem joinB_one (x sep : ByteArray) : joinB [x] sep = x := by
  apply ba_ext
  show (List.toArray _).toList = _
  simp [Lib.join]
theorem joinB_snoc (l : List ByteArray) (x sep : ByteArray) (h : l ≠ []) : joinB (l ++ [x]) sep = joinB l sep ++ sep ++ x := by
  apply ba_ext
  rw [ByteArray.data_append, ByteArray.data_append, Array.toList_append, Array.toList_append]
  have := inter_snoc sep.data.toList x.data.toList (l.map (·.data.toList)) (by simp [h])
  show (List.toArray _).toList = (List.toArray _).toList ++ _ ++ _
  rw [List.map_append]
  exact this
def comma : ByteArray := ⟨#[44]⟩
theorem itoa_len (n : Int) (h0 : -9223372036854775808 ≤ n) (h1 : n ≤ 9223372036854775807) : (tx n).size ≤ 21 := by
  have hd : ∀ u, u ≤ 9223372036854775808 → (Lib.decDigits u).length ≤ 20 := by
    intro u hu
    by_cases h : u = 0
    · subst h; rw [Lib.decDigits, dif_pos (by omega)]; exact Nat.le_of_ble_eq_true rfl
    · have := D10_len u 20 (by have : (10 : Nat) ^ 20 = 100000000000000000000 := by decide
                               omega)
      unfold D10 at this
      rwa [if_neg h] at this
  show (List.toArray _).size ≤ 21
  rw [List.size_toArray]
  unfold Lib.itoa
  split
  · rw [List.length_cons]; have := hd n.natAbs (by omega); omega
  · have := hd n.toNat (by omega); omega
theorem joinB_size (zs : List Int) (h : ∀ z ∈ zs, inR z) : (joinB (zs.map tx) comma).size ≤ 22 * zs.length := by
  have key : ∀ k, k ≤ zs.length → (joinB ((zs.take k).map tx) comma).size ≤ 22 * k := by
    intro k
    induction k with
    | zero => intro _; exact Nat.le_refl _
    | succ k ih =>
      intro hk
      have hk' : k < zs.length := hk
      rw [take_snoc hk', List.map_append, List.map_cons, List.map_nil]
      have hz := itoa_len zs[k] (h _ (List.getElem_mem hk')).1 (h _ (List.getElem_mem hk')).2
      by_cases h0 : k = 0
      · subst h0
        rw [List.take_zero, List.map_nil, List.nil_append, joinB_one]; omega
      · rw [joinB_snoc _ _ _ (by
          intro e
          have := congrArg List.length e
          simp only [List.length_map, List.length_take, List.length_nil] at this
          omega), ByteArray.size_append, ByteArray.size_append]
        have := ih (by omega)
        show _ + 1 + _ ≤ _
        omega
  have := key zs.length (Nat.le_refl _)
  rwa [List.take_length] at this
def dash : ByteArray := ⟨#[45]⟩
def listS (zs : List Int) : ByteArray := if zs = [] then dash else joinB (zs.map tx) comma
theorem sl_l : slotsOf 17 = 26 := by kernel_rfl
theorem re_l : resultsOf 17 = [.tmp 2] := by kernel_rfl
theorem fl_l : (flatten (bodyOf 17)).drop 5 = .block 0 (.loop (sub (bodyOf 17) [1, 1, 1, 0, 1, 0, 0])) :: (flatten (bodyOf 17)).drop 6 := by kernel_rfl
theorem len_cast (zs : List Int) : (((zs.map gi).length : Nat) : Int) = (zs.length : Nat) := by rw [List.length_map]
theorem fs_list (m : Int) (tS tR : TypeId) (pS pR : Value) (zs : List Int) (hl : zs.length ≤ 100000) (hz : ∀ z ∈ zs, inR z) :
    Fs Tryd.prog (roS m tS pS tR pR) 17 [.lst 1 (zs.map gi) .no] (hp [] []) fun r _ => r = .v (.string (listS zs)) := by
  refine Fs.of_body (has_fn (by kernel_rfl)) ?_
  rw [sl_l, re_l]
  have pre := fun R => l_pre m tS tR pS pR zs R
  rw [len_cast] at pre
  refine Tr.of_flat (Trl.split 5 (Trl.of_code knownS (ne_nil (by kernel_rfl)) (pre _) (holds_bif (fun h => ⟨trivial, .inr rfl, trivial, ?_⟩) fun h => ⟨?_, ?_⟩)))
  · have h : zs.length = 0 := by have := eq_of_beq h; omega
    have h := List.eq_nil_of_length_eq_zero h
    subst h
    rfl
  · with_reducible exact cdb_iff.2 ⟨trivial, decide_eq_true (by omega)⟩
  have hne : zs ≠ [] := by rintro rfl; simp at h
  show Trl _ _ ((flatten (bodyOf 17)).drop 5) _ _ _
  rw [fl_l]
  refine Tr.keepL [0, 3, 12, 13, 14] rfl ?_
  let I : Nat → List AV → AH → Prop := fun m act H => ∃ i : Nat, i ≤ zs.length ∧ m = zs.length - i ∧ ∃ ver, act = lA zs i (zs.length : Nat) (.lst 1 (((zs.take i).map tx).map sv) (.tp 0 ver)) ∧ H = hp [] [ver]
  refine Tr.block (Tr.loop I ?_ (m := zs.length) ⟨0, Nat.zero_le _, rfl, 0, rfl, rfl⟩)
  rintro m' act H ⟨i, hi, rfl, ver, rfl, rfl⟩
  refine Tr.of_code knownS (l_in m tS tR pS pR zs i (zs.length : Nat) ((zs.take i).map tx) ver _) (holds_bif (fun h1 => ?_) fun h1 => ⟨trivial, ?_⟩)
  · have h1 : i < zs.length := by have := of_decide_eq_true h1; omega
    have hr := hz _ (List.getElem_mem h1)
    have hg : (zs.map gi)[Int.toNat (i : Int)]? = some (.v (.int .i64 zs[i])) := gi_get h1
    rw [gi_ex h1, inc64 i (by omega)]
    refine ⟨?_, zs.length - (i + 1), by omega, i + 1, h1, rfl, ver + 1, ?_, rfl⟩
    · with_reducible refine cdb_iff.2 ⟨cdb_iff.2 ⟨cds_of trivial ⟨Int.natCast_nonneg i, hg⟩, decide_eq_true hr⟩, decide_eq_true ?_⟩
      simp only [List.length_map, List.length_take, List.length_cons, List.length_nil, and_true]
      omega
    · rw [take_snoc h1, List.map_append, List.map_append]; rfl
  · have h1 : i = zs.length := by have := of_decide_eq_false h1; omega
    subst h1
    show Trl _ _ ((flatten (bodyOf 17)).drop 6) _ _ _
    rw [List.take_length]
    have hj : joinP [.lst 1 ((zs.map tx).map sv) (.tp 0 ver), .v (.string comma)] = some (joinB (zs.map tx) comma, true) := by
      unfold joinP
      simp only [strs_map]
      have := joinB_size zs hz
      rw [decide_eq_true]
      rw [List.length_map]
      omega
    refine Trl.of_code knownS (ne_nil (by kernel_rfl)) (l_post m tS tR pS pR zs _ _ (zs.map tx) ver _) ⟨?_, .inr rfl, trivial, ?_⟩
    · refine cdb_iff.2 ⟨trivial, ?_⟩
      show joinOk [.lst 1 ((zs.map tx).map sv) (.tp 0 ver), .v (.string comma)] = true
      unfold joinOk
      rw [hj]
    · show joinV [.lst 1 ((zs.map tx).map sv) (.tp 0 ver), .v (.string comma)] = _
      unfold joinV listS
      rw [hj, if_neg hne]
theorem sl_rl : slotsOf 18 = 26 := by kernel_rfl
theorem re_rl : resultsOf 18 = [.tmp 2] := by kernel_rfl
theorem fl_rl : (flatten (bodyOf 18)).drop 3 = .block 0 (.loop (sub (bodyOf 18) [1, 1, 0, 1, 0, 0])) :: (flatten (bodyOf 18)).drop 4 := by kernel_rfl
theorem fs_rlist (zs : List Int) (hl : zs.length ≤ 100000) (hz : ∀ z ∈ zs, inR z) :
    Fs Tryd.prog nro 18 [.lst 1 (zs.map gi) .no] (hp [] []) fun r _ => r = .v (.string (listS zs)) := by
  refine Fs.of_body (has_fn (by kernel_rfl)) ?_
  rw [sl_rl, re_rl]
  refine Tr.of_flat (Trl.split 3 (Trl.of_code (knownN _) (ne_nil (by kernel_rfl)) (rl_pre zs _) ⟨trivial, ?_⟩))
  show Trl _ _ ((flatten (bodyOf 18)).drop 3) _ _ _
  rw [fl_rl]
  let I : Nat → List AV → AH → Prop := fun m act H => ∃ i : Nat, i ≤ zs.length ∧ m = zs.length - i ∧ act = rA zs (joinB ((zs.take i).map tx) comma) i ∧ H = hp [] []
  refine Tr.block (Tr.loop I ?_ (m := zs.length) ⟨0, Nat.zero_le _, rfl, rfl, rfl⟩)
  rintro m' act H ⟨i, hi, rfl, rfl, rfl⟩
  have body := fun R => rl_in zs (joinB ((zs.take i).map tx) comma) i R
  rw [len_cast, inc64 i (by omega)] at body
  have hsz : (joinB ((zs.take i).map tx) comma).size ≤ 22 * i := by
    have := joinB_size (zs.take i) (fun z hz' => hz z (List.mem_of_mem_take hz'))
    rw [List.length_take] at this; omega
  refine Tr.of_code (knownN _) (body _) (holds_bif (fun h1 => ?_) fun h1 => ⟨trivial, ?_⟩)
  · have h1 : i < zs.length := by have := of_decide_eq_true h1; omega
    have hr := hz _ (List.getElem_mem h1)
    have hg : (zs.map gi)[Int.toNat (i : Int)]? = some (.v (.int .i64 zs[i])) := gi_get h1
    have hts := itoa_len _ hr.1 hr.2
    rw [gi_ex h1]
    refine holds_bif (fun h2 => ⟨?_, zs.length - (i + 1), by omega, i + 1, h1, rfl, ?_, rfl⟩) (fun h2 => ⟨?_, zs.length - (i + 1), by omega, i + 1, h1, rfl, ?_, rfl⟩)
    · with_reducible refine cdb_iff.2 ⟨cdb_iff.2 ⟨cds_of (cdb_iff.2 ⟨trivial, decide_eq_true ?_⟩) ⟨Int.natCast_nonneg i, hg⟩, decide_eq_true hr⟩, decide_eq_true ?_⟩
      · omega
      · rw [ByteArray.size_append]
        show (joinB _ _).size + 1 + (tx zs[i]).size ≤ _
        omega
    · have h2 : 0 < i := by have := of_decide_eq_true h2; omega
      have hne : (zs.take i).map tx ≠ [] := by
        intro e
        have := congrArg List.length e
        simp only [List.length_map, List.length_take, List.length_nil] at this
        omega
      rw [take_snoc h1, List.map_append, List.map_cons, List.map_nil, joinB_snoc _ _ _ hne]
      rfl
    · with_reducible refine cdb_iff.2 ⟨cdb_iff.2 ⟨cds_of trivial ⟨Int.natCast_nonneg i, hg⟩, decide_eq_true hr⟩, decide_eq_true ?_⟩
      show (joinB _ _).size + (tx zs[i]).size ≤ _
      omega
    · have h2 : i = 0 := by have := of_decide_eq_false h2; omega
      subst h2
      rw [take_snoc h1, List.take_zero, List.map_nil, List.nil_append, List.map_cons, List.map_nil, joinB_one]
      refine congrArg (fun z => rA zs z ((0 + 1 : Nat) : Int)) ?_
      apply ba_ext
      rw [ByteArray.data_append, Array.toList_append]
      rfl
  · have h1 : i = zs.length := by have := of_decide_eq_false h1; omega
    subst h1
    rw [List.take_length]
    show Trl _ _ ((flatten (bodyOf 18)).drop 4) _ _ _
    have post := fun R => rl_post zs (joinB (zs.map tx) comma) (zs.length : Nat) R
    rw [len_cast] at post
    refine Trl.of_code (knownN _) (ne_nil (by kernel_rfl)) (post _) (holds_bif (fun h2 => ⟨trivial, .inr rfl, trivial, ?_⟩) (fun h2 => ⟨trivial, .inr rfl, trivial, ?_⟩))
    · have h2 : zs.length = 0 := by have := eq_of_beq h2; omega
      have h2 := List.eq_nil_of_length_eq_zero h2
      subst h2
      rfl
    · have hne : zs ≠ [] := by rintro rfl; simp at h2
      unfold listS
      rw [if_neg hne]
      rfl
end Go.Proofs.YtjnonfcemicmoaaDoor.AE
namespace Go.Proofs.YtjnonfcemicmoaaDoor.AE
open Go.RowKit
def ptA (s : ByteArray) (b f i : Int) (x : AV) : List AV := [.v (.string s), .v (.int .u8 b), .dead, .dead, .dead, x, .v (.int .i64 f), .v (.int .i64 i)] ++ List.replicate 27 .dead
def plA (ss : List ByteArray) (tip : Tip) (n i : Int) (x : AV) : List AV := List.replicate 4 .dead ++ [x] ++ List.replicate 7 .dead ++ [.lst 1 (ss.map sv) tip, .v (.int .i64 n), .v (.int .i64 i)] ++ List.replicate 17 .dead
def rpA (ss : List ByteArray) (i : Int) (x : AV) : List AV := List.replicate 4 .dead ++ [x, .lst 1 (ss.map sv) .no, .v (.int .i64 i)] ++ List.replicate 28 .dead
def sA (a b : AV) (i : Int) : List AV := [a, b, .dead, .dead, .dead, .v (.int .i64 i)] ++ List.replicate 26 .dead
noncomputable def prT : FuncId → Option (List AV → AH → Ans) := fun g => match g with
  | 8 => some (pure? rparseP)
  | _ => none
theorem knownT (ro : Nat → Option (List Value)) : Known ro prT := by
  intro g p h
  unfold prT at h
  split at h
  · cases h; exact rparse_ok _
  · cases h
theorem pt_pre (s : ByteArray) (b : Int) (R : Exit → List AV → AH → Prop) : codeL nro (fun _ => false) (fun _ => none) 5 ((flatten (bodyOf 24)).take 4) ([.v (.string s), .v (.int .u8 b)] ++ List.replicate 33 (.v undef)) (hp [] []) (kp [0, 1, 5, 6, 7] R) =
    (some (True ∧ (R Exit.normal [(AV.v (Value.string s)), (AV.v (Value.int IntKind.u8 b)), AV.dead, AV.dead, AV.dead, (AV.v (Value.slice none (0 : Nat) (0 : Nat))), (AV.v (Value.int IntKind.i64 (0 : Int))), (AV.v (Value.int IntKind.i64 (0 : Int))), AV.dead, AV.dead, AV.dead, AV.dead, AV.dead, AV.dead, AV.dead, AV.dead, AV.dead, AV.dead, AV.dead, AV.dead, AV.dead, AV.dead, AV.dead, AV.dead, AV.dead, AV.dead, AV.dead, AV.dead, AV.dead, AV.dead, AV.dead, AV.dead, AV.dead, AV.dead, AV.dead] (AH.mk (@List.nil (Prod Go.TypeId (List AV))) (@List.nil Nat) (0 : Nat) (0 : Nat) true (@List.nil (Prod Nat Bool)) True)))) := by kernel_rfl
theorem pt_in (s : ByteArray) (b f i : Int) (ss : List ByteArray) (ver : Nat) (R : Exit → List AV → AH → Prop) : code nro (fun _ => false) (fun _ => none) 5 (sub (bodyOf 24) [1, 1, 1, 0, 1, 0, 0]) (ptA s b f i (.lst 1 (ss.map sv) (.tp 0 ver))) (hp [] [ver]) (kp [0, 1, 5, 6, 7] R) =
    (bif (decide (i ≤ ((ByteArray.size s) : Int))) then (bif (i == ((ByteArray.size s) : Int)) then (some ((cdb (cdb True (decide (((0 : Int) ≤ f) ∧ ((f ≤ i) ∧ (i ≤ ((ByteArray.size s) : Int)))))) (decide ((((((List.length (List.map sv ss)) + (List.length [(AV.v (Value.string (ByteArray.extract s (Int.toNat f) (Int.toNat i))))])) * (16 : Nat)) ≤ (140737488355328 : Nat)) ∧ (((List.length (List.map sv ss)) + (List.length [(AV.v (Value.string (ByteArray.extract s (Int.toNat f) (Int.toNat i))))])) ≤ (9223372036854775807 : Nat))) ∧ (ver = ver)))) ∧ (R Exit.normal [(AV.v (Value.string s)), (AV.v (Value.int IntKind.u8 b)), AV.dead, AV.dead, AV.dead, (AV.lst (1 : Nat) ((List.map sv ss) ++ [(AV.v (Value.string (ByteArray.extract s (Int.toNat f) (Int.toNat i))))]) (Tip.tp (0 : Nat) (ver + (1 : Nat)))), (AV.v (Value.int IntKind.i64 (IntKind.wrap IntKind.i64 (i + (1 : Int))))), (AV.v (Value.int IntKind.i64 (IntKind.wrap IntKind.i64 (i + (1 : Int))))), AV.dead, AV.dead, AV.dead, AV.dead, AV.dead, AV.dead, AV.dead, AV.dead, AV.dead, AV.dead, AV.dead, AV.dead, AV.dead, AV.dead, AV.dead, AV.dead, AV.dead, AV.dead, AV.dead, AV.dead, AV.dead, AV.dead, AV.dead, AV.dead, AV.dead, AV.dead, AV.dead] (AH.mk (@List.nil (Prod Go.TypeId (List AV))) [(ver + (1 : Nat))] (0 : Nat) (0 : Nat) true (@List.nil (Prod Nat Bool)) True)))) else (bif (((UInt8.toNat (Array.getD (ByteArray.data s) (Int.toNat i) (@OfNat.ofNat UInt8 (0 : Nat) (@UInt8.instOfNat 0)))) : Int) == b) then (some ((cdb (cdb (cdb True (decide (((0 : Int) ≤ i) ∧ ((Int.toNat i) < (ByteArray.size s))))) (decide (((0 : Int) ≤ f) ∧ ((f ≤ i) ∧ (i ≤ ((ByteArray.size s) : Int)))))) (decide ((((((List.length (List.map sv ss)) + (List.length [(AV.v (Value.string (ByteArray.extract s (Int.toNat f) (Int.toNat i))))])) * (16 : Nat)) ≤ (140737488355328 : Nat)) ∧ (((List.length (List.map sv ss)) + (List.length [(AV.v (Value.string (ByteArray.extract s (Int.toNat f) (Int.toNat i))))])) ≤ (9223372036854775807 : Nat))) ∧ (ver = ver)))) ∧ (R Exit.normal [(AV.v (Value.string s)), (AV.v (Value.int IntKind.u8 b)), AV.dead, AV.dead, AV.dead, (AV.lst (1 : Nat) ((List.map sv ss) ++ [(AV.v (Value.string (ByteArray.extract s (Int.toNat f) (Int.toNat i))))]) (Tip.tp (0 : Nat) (ver + (1 : Nat)))), (AV.v (Value.int IntKind.i64 (IntKind.wrap IntKind.i64 (i + (1 : Int))))), (AV.v (Value.int IntKind.i64 (IntKind.wrap IntKind.i64 (i + (1 : Int))))), AV.dead, AV.dead, AV.dead, AV.dead, AV.dead, AV.dead, AV.dead, AV.dead, AV.dead, AV.dead, AV.dead, AV.dead, AV.dead, AV.dead, AV.dead, AV.dead, AV.dead, AV.dead, AV.dead, AV.dead, AV.dead, AV.dead, AV.dead, AV.dead, AV.dead, AV.dead, AV.dead] (AH.mk (@List.nil (Prod Go.TypeId (List AV))) [(ver + (1 : Nat))] (0 : Nat) (0 : Nat) true (@List.nil (Prod Nat Bool)) True)))) else (some ((cdb True (decide (((0 : Int) ≤ i) ∧ ((Int.toNat i) < (ByteArray.size s))))) ∧ (R Exit.normal [(AV.v (Value.string s)), (AV.v (Value.int IntKind.u8 b)), AV.dead, AV.dead, AV.dead, (AV.lst (1 : Nat) (List.map sv ss) (Tip.tp (0 : Nat) ver)), (AV.v (Value.int IntKind.i64 f)), (AV.v (Value.int IntKind.i64 (IntKind.wrap IntKind.i64 (i + (1 : Int))))), AV.dead, AV.dead, AV.dead, AV.dead, AV.dead, AV.dead, AV.dead, AV.dead, AV.dead, AV.dead, AV.dead, AV.dead, AV.dead, AV.dead, AV.dead, AV.dead, AV.dead, AV.dead, AV.dead, AV.dead, AV.dead, AV.dead, AV.dead, AV.dead, AV.dead, AV.dead, AV.dead] (AH.mk (@List.nil (Prod Go.TypeId (List AV))) [ver] (0 : Nat) (0 : Nat) true (@List.nil (Prod Nat Bool)) True)))))) else (some (True ∧ (R (Exit.exit (0 : Nat)) [(AV.v (Value.string s)), (AV.v (Value.int IntKind.u8 b)), AV.dead, AV.dead, AV.dead, (AV.lst (1 : Nat) (List.map sv ss) (Tip.tp (0 : Nat) ver)), (AV.v (Value.int IntKind.i64 f)), (AV.v (Value.int IntKind.i64 i)), AV.dead, AV.dead, AV.dead, AV.dead, AV.dead, AV.dead, AV.dead, AV.dead, AV.dead, AV.dead, AV.dead, AV.dead, AV.dead, AV.dead, AV.dead, AV.dead, AV.dead, AV.dead, AV.dead, AV.dead, AV.dead, AV.dead, AV.dead, AV.dead, AV.dead, AV.dead, AV.dead] (AH.mk (@List.nil (Prod Go.TypeId (List AV))) [ver] (0 : Nat) (0 : Nat) true (@List.nil (Prod Nat Bool)) True))))) := by kernel_rfl
theorem pt_post (s : ByteArray) (b f i : Int) (ss : List ByteArray) (ver : Nat) (R : Exit → List AV → AH → Prop) : codeL nro (fun _ => false) (fun _ => none) 5 ((flatten (bodyOf 24)).drop 5) (ptA s b f i (.lst 1 (ss.map sv) (.tp 0 ver))) (hp [] [ver]) (kp [4] R) =
    (some (True ∧ (R Exit.ret [AV.dead, AV.dead, AV.dead, AV.dead, (AV.lst (1 : Nat) (List.map sv ss) (Tip.tp (0 : Nat) ver)), AV.dead, AV.dead, AV.dead, AV.dead, AV.dead, AV.dead, AV.dead, AV.dead, AV.dead, AV.dead, AV.dead, AV.dead, AV.dead, AV.dead, AV.dead, AV.dead, AV.dead, AV.dead, AV.dead, AV.dead, AV.dead, AV.dead, AV.dead, AV.dead, AV.dead, AV.dead, AV.dead, AV.dead, AV.dead, AV.dead] (AH.mk (@List.nil (Prod Go.TypeId (List AV))) [ver] (0 : Nat) (0 : Nat) true (@List.nil (Prod Nat Bool)) True)))) := by kernel_rfl
theorem pl_pre (m : Int) (tS tR : TypeId) (pS pR : Value) (s : ByteArray) (R : Exit → List AV → AH → Prop) : codeL (roS m tS pS tR pR) (fun _ => false) prS 5 ((flatten (bodyOf 15)).take 5) ([.v (.string s)] ++ List.replicate 31 (.v undef)) (hp [] []) (kp [2, 3, 4, 12, 13, 14] R) =
    (bif ((ByteArray.toList s) == [(Array.getD #[(@OfNat.ofNat UInt8 (45 : Nat) (@UInt8.instOfNat 45))] (0 : Nat) (UInt8.ofBitVec (BitVec.ofFin (Fin.mk (0 : Nat) instInhabitedUInt8._proof_1))))]) then (some (True ∧ (R Exit.ret [AV.dead, AV.dead, (AV.v (Value.slice none (0 : Nat) (0 : Nat))), (AV.v (Value.int IntKind.i64 (0 : Int))), (AV.v (Value.tuple (Array.mk (@List.nil Go.Value)))), AV.dead, AV.dead, AV.dead, AV.dead, AV.dead, AV.dead, AV.dead, (AV.v (Value.tuple (Array.mk (@List.nil Go.Value)))), (AV.v (Value.tuple (Array.mk (@List.nil Go.Value)))), (AV.v (Value.tuple (Array.mk (@List.nil Go.Value)))), AV.dead, AV.dead, AV.dead, AV.dead, AV.dead, AV.dead, AV.dead, AV.dead, AV.dead, AV.dead, AV.dead, AV.dead, AV.dead, AV.dead, AV.dead, AV.dead, AV.dead] (AH.mk (@List.nil (Prod Go.TypeId (List AV))) (@List.nil Nat) (0 : Nat) (0 : Nat) true (@List.nil (Prod Nat Bool)) True)))) else (some ((cdb True (splitOk [(AV.v (Value.string s)), (AV.v (Value.string (ByteArray.mk #[(@OfNat.ofNat UInt8 (44 : Nat) (@UInt8.instOfNat 44))])))])) ∧ (R Exit.normal [AV.dead, AV.dead, (AV.v (Value.slice none (0 : Nat) (0 : Nat))), (AV.v (Value.int IntKind.i64 (0 : Int))), (AV.v (Value.slice none (0 : Nat) (0 : Nat))), AV.dead, AV.dead, AV.dead, AV.dead, AV.dead, AV.dead, AV.dead, (AV.lst (1 : Nat) (List.map sv (splitV.match_1 (fun (x : (Option (Prod (List ByteArray) Bool))) => (List ByteArray)) (some ((splitL s (ByteArray.mk #[(@OfNat.ofNat UInt8 (44 : Nat) (@UInt8.instOfNat 44))])), (decide (((ByteArray.size s) < (4294967281 : Nat)) ∧ ((1 : Nat) ≤ (1 : Nat)))))) (fun (r : (Prod (List ByteArray) Bool)) => (r).1) (fun (_ : Unit) => (@List.nil ByteArray)))) Tip.exact), (AV.v (Value.int IntKind.i64 ((List.length (List.map sv (splitV.match_1 (fun (x : (Option (Prod (List ByteArray) Bool))) => (List ByteArray)) (some ((splitL s (ByteArray.mk #[(@OfNat.ofNat UInt8 (44 : Nat) (@UInt8.instOfNat 44))])), (decide (((ByteArray.size s) < (4294967281 : Nat)) ∧ ((1 : Nat) ≤ (1 : Nat)))))) (fun (r : (Prod (List ByteArray) Bool)) => (r).1) (fun (_ : Unit) => (@List.nil ByteArray))))) : Int))), (AV.v (Value.int IntKind.i64 (0 : Int))), AV.dead, AV.dead, AV.dead, AV.dead, AV.dead, AV.dead, AV.dead, AV.dead, AV.dead, AV.dead, AV.dead, AV.dead, AV.dead, AV.dead, AV.dead, AV.dead, AV.dead] (AH.mk (@List.nil (Prod Go.TypeId (List AV))) (@List.nil Nat) (0 : Nat) (0 : Nat) true (@List.nil (Prod Nat Bool)) True))))) := by kernel_rfl
theorem pl_in (m : Int) (tS tR : TypeId) (pS pR : Value) (ss : List ByteArray) (tip : Tip) (n i : Int) (zs : List Int) (ver : Nat) (R : Exit → List AV → AH → Prop) : code (roS m tS pS tR pR) (fun _ => false) prS 5 (sub (bodyOf 15) [1, 1, 1, 0, 1, 0, 0]) (plA ss tip n i (.lst 1 (zs.map gi) (.tp 0 ver))) (hp [] [ver]) (kp [2, 3, 4, 12, 13, 14] R) =
    (bif (decide (i < n)) then (bif ((dpY (exStr (List.getD (List.map sv ss) (Int.toNat i) AV.dead))) != (0 : Int)) then (some ((cdb (cds True (elemB Tryd.prog (9 : Nat) (List.map sv ss) i) (((0 : Int) ≤ i) ∧ (((List.map sv ss)[(Int.toNat i)]?) = (some (AV.v (Value.string (exStr (List.getD (List.map sv ss) (Int.toNat i) AV.dead)))))))) (decide ((ByteArray.size (exStr (List.getD (List.map sv ss) (Int.toNat i) AV.dead))) ≤ (100000 : Nat)))) ∧ (R Exit.ret [AV.dead, AV.dead, (AV.v (Value.slice none (0 : Nat) (0 : Nat))), (AV.v (Value.int IntKind.i64 (dpY (exStr (List.getD (List.map sv ss) (Int.toNat i) AV.dead))))), (AV.lst (1 : Nat) (List.map gi zs) (Tip.tp (0 : Nat) ver)), AV.dead, AV.dead, AV.dead, AV.dead, AV.dead, AV.dead, AV.dead, (AV.lst (1 : Nat) (List.map sv ss) tip), (AV.v (Value.int IntKind.i64 n)), (AV.v (Value.int IntKind.i64 i)), AV.dead, AV.dead, AV.dead, AV.dead, AV.dead, AV.dead, AV.dead, AV.dead, AV.dead, AV.dead, AV.dead, AV.dead, AV.dead, AV.dead, AV.dead, AV.dead, AV.dead] (AH.mk (@List.nil (Prod Go.TypeId (List AV))) [ver] (0 : Nat) (0 : Nat) true (@List.nil (Prod Nat Bool)) True)))) else (some ((cdb (cdb (cds True (elemB Tryd.prog (9 : Nat) (List.map sv ss) i) (((0 : Int) ≤ i) ∧ (((List.map sv ss)[(Int.toNat i)]?) = (some (AV.v (Value.string (exStr (List.getD (List.map sv ss) (Int.toNat i) AV.dead)))))))) (decide ((ByteArray.size (exStr (List.getD (List.map sv ss) (Int.toNat i) AV.dead))) ≤ (100000 : Nat)))) (decide ((((((List.length (List.map gi zs)) + (List.length [(AV.v (Value.int IntKind.i64 (dpX (exStr (List.getD (List.map sv ss) (Int.toNat i) AV.dead)))))])) * (8 : Nat)) ≤ (140737488355328 : Nat)) ∧ (((List.length (List.map gi zs)) + (List.length [(AV.v (Value.int IntKind.i64 (dpX (exStr (List.getD (List.map sv ss) (Int.toNat i) AV.dead)))))])) ≤ (9223372036854775807 : Nat))) ∧ (ver = ver)))) ∧ (R Exit.normal [AV.dead, AV.dead, AV.dead, AV.dead, (AV.lst (1 : Nat) ((List.map gi zs) ++ [(AV.v (Value.int IntKind.i64 (dpX (exStr (List.getD (List.map sv ss) (Int.toNat i) AV.dead)))))]) (Tip.tp (0 : Nat) (ver + (1 : Nat)))), AV.dead, AV.dead, AV.dead, AV.dead, AV.dead, AV.dead, AV.dead, (AV.lst (1 : Nat) (List.map sv ss) tip), (AV.v (Value.int IntKind.i64 n)), (AV.v (Value.int IntKind.i64 (IntKind.wrap IntKind.i64 (i + (1 : Int))))), AV.dead, AV.dead, AV.dead, AV.dead, AV.dead, AV.dead, AV.dead, AV.dead, AV.dead, AV.dead, AV.dead, AV.dead, AV.dead, AV.dead, AV.dead, AV.dead, AV.dead] (AH.mk (@List.nil (Prod Go.TypeId (List AV))) [(ver + (1 : Nat))] (0 : Nat) (0 : Nat) true (@List.nil (Prod Nat Bool)) True))))) else (some (True ∧ (R (Exit.exit (0 : Nat)) [AV.dead, AV.dead, AV.dead, AV.dead, (AV.lst (1 : Nat) (List.map gi zs) (Tip.tp (0 : Nat) ver)), AV.dead, AV.dead, AV.dead, AV.dead, AV.dead, AV.dead, AV.dead, (AV.lst (1 : Nat) (List.map sv ss) tip), (AV.v (Value.int IntKind.i64 n)), (AV.v (Value.int IntKind.i64 i)), AV.dead, AV.dead, AV.dead, AV.dead, AV.dead, AV.dead, AV.dead, AV.dead, AV.dead, AV.dead, AV.dead, AV.dead, AV.dead, AV.dead, AV.dead, AV.dead, AV.dead] (AH.mk (@List.nil (Prod Go.TypeId (List AV))) [ver] (0 : Nat) (0 : Nat) true (@List.nil (Prod Nat Bool)) True))))) := by kernel_rfl
theorem pl_post (m : Int) (tS tR : TypeId) (pS pR : Value) (ss : List ByteArray) (tip : Tip) (n i : Int) (zs : List Int) (ver : Nat) (R : Exit → List AV → AH → Prop) : codeL (roS m tS pS tR pR) (fun _ => false) prS 5 ((flatten (bodyOf 15)).drop 6) (plA ss tip n i (.lst 1 (zs.map gi) (.tp 0 ver))) (hp [] [ver]) (kp [2, 3] R) =
    (some (True ∧ (R Exit.ret [AV.dead, AV.dead, (AV.lst (1 : Nat) (List.map gi zs) (Tip.tp (0 : Nat) ver)), (AV.v (Value.int IntKind.i64 (0 : Int))), AV.dead, AV.dead, AV.dead, AV.dead, AV.dead, AV.dead, AV.dead, AV.dead, AV.dead, AV.dead, AV.dead, AV.dead, AV.dead, AV.dead, AV.dead, AV.dead, AV.dead, AV.dead, AV.dead, AV.dead, AV.dead, AV.dead, AV.dead, AV.dead, AV.dead, AV.dead, AV.dead, AV.dead] (AH.mk (@List.nil (Prod Go.TypeId (List AV))) [ver] (0 : Nat) (0 : Nat) true (@List.nil (Prod Nat Bool)) True)))) := by kernel_rfl
theorem rp_pre (s : ByteArray) (R : Exit → List AV → AH → Prop) : codeL nro (fun _ => false) prT 5 ((flatten (bodyOf 16)).take 4) ([.v (.string s)] ++ List.replicate 34 (.v undef)) (hp [] []) (kp [0, 2, 3, 4] R) =
    (bif ((ByteArray.toList s) == [(Array.getD #[(@OfNat.ofNat UInt8 (45 : Nat) (@UInt8.instOfNat 45))] (0 : Nat) (UInt8.ofBitVec (BitVec.ofFin (Fin.mk (0 : Nat) instInhabitedUInt8._proof_1))))]) then (some (True ∧ (R Exit.ret [(AV.v (Value.string s)), AV.dead, (AV.v (Value.slice none (0 : Nat) (0 : Nat))), (AV.v (Value.int IntKind.i64 (0 : Int))), (AV.v (Value.tuple (Array.mk (@List.nil Go.Value)))), AV.dead, AV.dead, AV.dead, AV.dead, AV.dead, AV.dead, AV.dead, AV.dead, AV.dead, AV.dead, AV.dead, AV.dead, AV.dead, AV.dead, AV.dead, AV.dead, AV.dead, AV.dead, AV.dead, AV.dead, AV.dead, AV.dead, AV.dead, AV.dead, AV.dead, AV.dead, AV.dead, AV.dead, AV.dead, AV.dead] (AH.mk (@List.nil (Prod Go.TypeId (List AV))) (@List.nil Nat) (0 : Nat) (0 : Nat) true (@List.nil (Prod Nat Bool)) True)))) else (some (True ∧ (R Exit.normal [(AV.v (Value.string s)), AV.dead, (AV.v (Value.slice none (0 : Nat) (0 : Nat))), (AV.v (Value.int IntKind.i64 (0 : Int))), (AV.v (Value.slice none (0 : Nat) (0 : Nat))), AV.dead, AV.dead, AV.dead, AV.dead, AV.dead, AV.dead, AV.dead, AV.dead, AV.dead, AV.dead, AV.dead, AV.dead, AV.dead, AV.dead, AV.dead, AV.dead, AV.dead, AV.dead, AV.dead, AV.dead, AV.dead, AV.dead, AV.dead, AV.dead, AV.dead, AV.dead, AV.dead, AV.dead, AV.dead, AV.dead] (AH.mk (@List.nil (Prod Go.TypeId (List AV))) (@List.nil Nat) (0 : Nat) (0 : Nat) true (@List.nil (Prod Nat Bool)) True))))) := by kernel_rfl
theorem rp_in (ss : List ByteArray) (i : Int) (zs : List Int) (ver : Nat) (R : Exit → List AV → AH → Prop) : code nro (fun _ => false) prT 5 (sub (bodyOf 16) [1, 1, 1, 1, 0, 1, 0, 0]) (rpA ss i (.lst 1 (zs.map gi) (.tp 0 ver))) (hp [] [ver]) (kp [2, 3, 4, 5, 6] R) =
    (bif (decide (i < ((List.length (List.map sv ss)) : Int))) then (bif ((dpY (exStr (List.getD (List.map sv ss) (Int.toNat i) AV.dead))) != (0 : Int)) then (some ((cdb (cds True (elemB Tryd.prog (9 : Nat) (List.map sv ss) i) (((0 : Int) ≤ i) ∧ (((List.map sv ss)[(Int.toNat i)]?) = (some (AV.v (Value.string (exStr (List.getD (List.map sv ss) (Int.toNat i) AV.dead)))))))) (decide ((ByteArray.size (exStr (List.getD (List.map sv ss) (Int.toNat i) AV.dead))) ≤ (100000 : Nat)))) ∧ (R Exit.ret [AV.dead, AV.dead, (AV.v (Value.slice none (0 : Nat) (0 : Nat))), (AV.v (Value.int IntKind.i64 (dpY (exStr (List.getD (List.map sv ss) (Int.toNat i) AV.dead))))), (AV.lst (1 : Nat) (List.map gi zs) (Tip.tp (0 : Nat) ver)), (AV.lst (1 : Nat) (List.map sv ss) Tip.no), (AV.v (Value.int IntKind.i64 i)), AV.dead, AV.dead, AV.dead, AV.dead, AV.dead, AV.dead, AV.dead, AV.dead, AV.dead, AV.dead, AV.dead, AV.dead, AV.dead, AV.dead, AV.dead, AV.dead, AV.dead, AV.dead, AV.dead, AV.dead, AV.dead, AV.dead, AV.dead, AV.dead, AV.dead, AV.dead, AV.dead, AV.dead] (AH.mk (@List.nil (Prod Go.TypeId (List AV))) [ver] (0 : Nat) (0 : Nat) true (@List.nil (Prod Nat Bool)) True)))) else (some ((cdb (cdb (cds True (elemB Tryd.prog (9 : Nat) (List.map sv ss) i) (((0 : Int) ≤ i) ∧ (((List.map sv ss)[(Int.toNat i)]?) = (some (AV.v (Value.string (exStr (List.getD (List.map sv ss) (Int.toNat i) AV.dead)))))))) (decide ((ByteArray.size (exStr (List.getD (List.map sv ss) (Int.toNat i) AV.dead))) ≤ (100000 : Nat)))) (decide ((((((List.length (List.map gi zs)) + (List.length [(AV.v (Value.int IntKind.i64 (dpX (exStr (List.getD (List.map sv ss) (Int.toNat i) AV.dead)))))])) * (8 : Nat)) ≤ (140737488355328 : Nat)) ∧ (((List.length (List.map gi zs)) + (List.length [(AV.v (Value.int IntKind.i64 (dpX (exStr (List.getD (List.map sv ss) (Int.toNat i) AV.dead)))))])) ≤ (9223372036854775807 : Nat))) ∧ (ver = ver)))) ∧ (R Exit.normal [AV.dead, AV.dead, AV.dead, AV.dead, (AV.lst (1 : Nat) ((List.map gi zs) ++ [(AV.v (Value.int IntKind.i64 (dpX (exStr (List.getD (List.map sv ss) (Int.toNat i) AV.dead)))))]) (Tip.tp (0 : Nat) (ver + (1 : Nat)))), (AV.lst (1 : Nat) (List.map sv ss) Tip.no), (AV.v (Value.int IntKind.i64 (IntKind.wrap IntKind.i64 (i + (1 : Int))))), AV.dead, AV.dead, AV.dead, AV.dead, AV.dead, AV.dead, AV.dead, AV.dead, AV.dead, AV.dead, AV.dead, AV.dead, AV.dead, AV.dead, AV.dead, AV.dead, AV.dead, AV.dead, AV.dead, AV.dead, AV.dead, AV.dead, AV.dead, AV.dead, AV.dead, AV.dead, AV.dead, AV.dead] (AH.mk (@List.nil (Prod Go.TypeId (List AV))) [(ver + (1 : Nat))] (0 : Nat) (0 : Nat) true (@List.nil (Prod Nat Bool)) True))))) else (some (True ∧ (R (Exit.exit (0 : Nat)) [AV.dead, AV.dead, AV.dead, AV.dead, (AV.lst (1 : Nat) (List.map gi zs) (Tip.tp (0 : Nat) ver)), (AV.lst (1 : Nat) (List.map sv ss) Tip.no), (AV.v (Value.int IntKind.i64 i)), AV.dead, AV.dead, AV.dead, AV.dead, AV.dead, AV.dead, AV.dead, AV.dead, AV.dead, AV.dead, AV.dead, AV.dead, AV.dead, AV.dead, AV.dead, AV.dead, AV.dead, AV.dead, AV.dead, AV.dead, AV.dead, AV.dead, AV.dead, AV.dead, AV.dead, AV.dead, AV.dead, AV.dead] (AH.mk (@List.nil (Prod Go.TypeId (List AV))) [ver] (0 : Nat) (0 : Nat) true (@List.nil (Prod Nat Bool)) True))))) := by kernel_rfl
theorem rp_post (ss : List ByteArray) (i : Int) (zs : List Int) (ver : Nat) (R : Exit → List AV → AH → Prop) : codeL nro (fun _ => false) prT 5 ((flatten (bodyOf 16)).drop 7) (rpA ss i (.lst 1 (zs.map gi) (.tp 0 ver))) (hp [] [ver]) (kp [2, 3] R) =
    (some (True ∧ (R Exit.ret [AV.dead, AV.dead, (AV.lst (1 : Nat) (List.map gi zs) (Tip.tp (0 : Nat) ver)), (AV.v (Value.int IntKind.i64 (0 : Int))), AV.dead, AV.dead, AV.dead, AV.dead, AV.dead, AV.dead, AV.dead, AV.dead, AV.dead, AV.dead, AV.dead, AV.dead, AV.dead, AV.dead, AV.dead, AV.dead, AV.dead, AV.dead, AV.dead, AV.dead, AV.dead, AV.dead, AV.dead, AV.dead, AV.dead, AV.dead, AV.dead, AV.dead, AV.dead, AV.dead, AV.dead] (AH.mk (@List.nil (Prod Go.TypeId (List AV))) [ver] (0 : Nat) (0 : Nat) true (@List.nil (Prod Nat Bool)) True)))) := by kernel_rfl
theorem sa_pre (a b : List Int) (R : Exit → List AV → AH → Prop) : codeL nro (fun _ => false) (fun _ => none) 5 ((flatten (bodyOf 19)).take 4) ([.lst 1 (a.map gi) .no, .lst 1 (b.map gi) .no] ++ List.replicate 30 (.v undef)) (hp [] []) (kp [0, 1, 4, 5] R) =
    (bif (((List.length (List.map gi a)) : Int) != ((List.length (List.map gi b)) : Int)) then (some (True ∧ (R Exit.ret [(AV.lst (1 : Nat) (List.map gi a) Tip.no), (AV.lst (1 : Nat) (List.map gi b) Tip.no), AV.dead, AV.dead, (AV.v (Value.bool false)), (AV.v (Value.tuple (Array.mk (@List.nil Go.Value)))), AV.dead, AV.dead, AV.dead, AV.dead, AV.dead, AV.dead, AV.dead, AV.dead, AV.dead, AV.dead, AV.dead, AV.dead, AV.dead, AV.dead, AV.dead, AV.dead, AV.dead, AV.dead, AV.dead, AV.dead, AV.dead, AV.dead, AV.dead, AV.dead, AV.dead, AV.dead] (AH.mk (@List.nil (Prod Go.TypeId (List AV))) (@List.nil Nat) (0 : Nat) (0 : Nat) true (@List.nil (Prod Nat Bool)) True)))) else (some (True ∧ (R Exit.normal [(AV.lst (1 : Nat) (List.map gi a) Tip.no), (AV.lst (1 : Nat) (List.map gi b) Tip.no), AV.dead, AV.dead, (AV.v (Value.bool false)), (AV.v (Value.int IntKind.i64 (0 : Int))), AV.dead, AV.dead, AV.dead, AV.dead, AV.dead, AV.dead, AV.dead, AV.dead, AV.dead, AV.dead, AV.dead, AV.dead, AV.dead, AV.dead, AV.dead, AV.dead, AV.dead, AV.dead, AV.dead, AV.dead, AV.dead, AV.dead, AV.dead, AV.dead, AV.dead, AV.dead] (AH.mk (@List.nil (Prod Go.TypeId (List AV))) (@List.nil Nat) (0 : Nat) (0 : Nat) true (@List.nil (Prod Nat Bool)) True))))) := by kernel_rfl
theorem sa_in (a b : List Int) (i : Int) (R : Exit → List AV → AH → Prop) : code nro (fun _ => false) (fun _ => none) 5 (sub (bodyOf 19) [1, 1, 0, 1, 0, 0]) (sA (.lst 1 (a.map gi) .no) (.lst 1 (b.map gi) .no) i) (hp [] []) (kp [0, 1, 4, 5] R) =
    (bif (decide (i < ((List.length (List.map gi a)) : Int))) then (bif (decide (i < ((List.length (List.map gi b)) : Int))) then (bif ((exInt (List.getD (List.map gi a) (Int.toNat i) AV.dead)) != (exInt (List.getD (List.map gi b) (Int.toNat i) AV.dead))) then (some ((cds (cds True (elemB Tryd.prog (3 : Nat) (List.map gi a) i) (((0 : Int) ≤ i) ∧ (((List.map gi a)[(Int.toNat i)]?) = (some (AV.v (Value.int IntKind.i64 (exInt (List.getD (List.map gi a) (Int.toNat i) AV.dead)))))))) (elemB Tryd.prog (3 : Nat) (List.map gi b) i) (((0 : Int) ≤ i) ∧ (((List.map gi b)[(Int.toNat i)]?) = (some (AV.v (Value.int IntKind.i64 (exInt (List.getD (List.map gi b) (Int.toNat i) AV.dead)))))))) ∧ (R Exit.ret [(AV.lst (1 : Nat) (List.map gi a) Tip.no), (AV.lst (1 : Nat) (List.map gi b) Tip.no), AV.dead, AV.dead, (AV.v (Value.bool false)), (AV.v (Value.int IntKind.i64 i)), AV.dead, AV.dead, AV.dead, AV.dead, AV.dead, AV.dead, AV.dead, AV.dead, AV.dead, AV.dead, AV.dead, AV.dead, AV.dead, AV.dead, AV.dead, AV.dead, AV.dead, AV.dead, AV.dead, AV.dead, AV.dead, AV.dead, AV.dead, AV.dead, AV.dead, AV.dead] (AH.mk (@List.nil (Prod Go.TypeId (List AV))) (@List.nil Nat) (0 : Nat) (0 : Nat) true (@List.nil (Prod Nat Bool)) True)))) else (some ((cds (cds True (elemB Tryd.prog (3 : Nat) (List.map gi a) i) (((0 : Int) ≤ i) ∧ (((List.map gi a)[(Int.toNat i)]?) = (some (AV.v (Value.int IntKind.i64 (exInt (List.getD (List.map gi a) (Int.toNat i) AV.dead)))))))) (elemB Tryd.prog (3 : Nat) (List.map gi b) i) (((0 : Int) ≤ i) ∧ (((List.map gi b)[(Int.toNat i)]?) = (some (AV.v (Value.int IntKind.i64 (exInt (List.getD (List.map gi b) (Int.toNat i) AV.dead)))))))) ∧ (R Exit.normal [(AV.lst (1 : Nat) (List.map gi a) Tip.no), (AV.lst (1 : Nat) (List.map gi b) Tip.no), AV.dead, AV.dead, AV.dead, (AV.v (Value.int IntKind.i64 (IntKind.wrap IntKind.i64 (i + (1 : Int))))), AV.dead, AV.dead, AV.dead, AV.dead, AV.dead, AV.dead, AV.dead, AV.dead, AV.dead, AV.dead, AV.dead, AV.dead, AV.dead, AV.dead, AV.dead, AV.dead, AV.dead, AV.dead, AV.dead, AV.dead, AV.dead, AV.dead, AV.dead, AV.dead, AV.dead, AV.dead] (AH.mk (@List.nil (Prod Go.TypeId (List AV))) (@List.nil Nat) (0 : Nat) (0 : Nat) true (@List.nil (Prod Nat Bool)) True))))) else (some (True ∧ (R (Exit.exit (0 : Nat)) [(AV.lst (1 : Nat) (List.map gi a) Tip.no), (AV.lst (1 : Nat) (List.map gi b) Tip.no), AV.dead, AV.dead, AV.dead, (AV.v (Value.int IntKind.i64 i)), AV.dead, AV.dead, AV.dead, AV.dead, AV.dead, AV.dead, AV.dead, AV.dead, AV.dead, AV.dead, AV.dead, AV.dead, AV.dead, AV.dead, AV.dead, AV.dead, AV.dead, AV.dead, AV.dead, AV.dead, AV.dead, AV.dead, AV.dead, AV.dead, AV.dead, AV.dead] (AH.mk (@List.nil (Prod Go.TypeId (List AV))) (@List.nil Nat) (0 : Nat) (0 : Nat) true (@List.nil (Prod Nat Bool)) True))))) else (some (True ∧ (R (Exit.exit (0 : Nat)) [(AV.lst (1 : Nat) (List.map gi a) Tip.no), (AV.lst (1 : Nat) (List.map gi b) Tip.no), AV.dead, AV.dead, AV.dead, (AV.v (Value.int IntKind.i64 i)), AV.dead, AV.dead, AV.dead, AV.dead, AV.dead, AV.dead, AV.dead, AV.dead, AV.dead, AV.dead, AV.dead, AV.dead, AV.dead, AV.dead, AV.dead, AV.dead, AV.dead, AV.dead, AV.dead, AV.dead, AV.dead, AV.dead, AV.dead, AV.dead, AV.dead, AV.dead] (AH.mk (@List.nil (Prod Go.TypeId (List AV))) (@List.nil Nat) (0 : Nat) (0 : Nat) true (@List.nil (Prod Nat Bool)) True))))) := by kernel_rfl
theorem sa_post (x y : AV) (i : Int) (R : Exit → List AV → AH → Prop) : codeL nro (fun _ => false) (fun _ => none) 5 ((flatten (bodyOf 19)).drop 5) (sA x y i) (hp [] []) (kp [4] R) =
    (some (True ∧ (R Exit.ret [AV.dead, AV.dead, AV.dead, AV.dead, (AV.v (Value.bool true)), AV.dead, AV.dead, AV.dead, AV.dead, AV.dead, AV.dead, AV.dead, AV.dead, AV.dead, AV.dead, AV.dead, AV.dead, AV.dead, AV.dead, AV.dead, AV.dead, AV.dead, AV.dead, AV.dead, AV.dead, AV.dead, AV.dead, AV.dead, AV.dead, AV.dead, AV.dead, AV.dead] (AH.mk (@List.nil (Prod Go.TypeId (List AV))) (@List.nil Nat) (0 : Nat) (0 : Nat) true (@List.nil (Prod Nat Bool)) True)))) := by kernel_rfl
end Go.Proofs.YtjnonfcemicmoaaDoor.AE
namespace Go.Proofs.YtjnonfcemicmoaaDoor.AE
open Go.RowKit
def consH (c : UInt8) : List (List UInt8) → List (List UInt8)
  | [] => [[c]]
  | x :: r => (c :: x) :: r
def pts (b : UInt8) : List UInt8 → List (List UInt8)
  | [] => [[]]
  | c :: l => if c = b then [] :: pts b l else consH c (pts b l)
theorem pts_cons (b c : UInt8) (l : List UInt8) : pts b (c :: l) = if c = b then [] :: pts b l else consH c (pts b l) := rfl
theorem pts_no {b : UInt8} : ∀ {l : List UInt8}, b ∉ l → pts b l = [l]
  | [], _ => rfl
  | c :: l, h => by
    simp only [List.mem_cons, not_or] at h
    rw [pts_cons, if_neg (fun e => h.1 e.symm), pts_no h.2]; rfl
theorem pts_at {b : UInt8} (r : List UInt8) : ∀ {a : List UInt8}, b ∉ a → pts b (a ++ b :: r) = a :: pts b r
  | [], _ => by
    show pts b (b :: r) = _
    rw [pts_cons, if_pos rfl]
  | c :: l, h => by
    simp only [List.mem_cons, not_or] at h
    show pts b (c :: (l ++ b :: r)) = _
    rw [pts_cons, if_neg (fun e => h.1 e.symm), pts_at r h.2]; rfl
theorem ib_none {b : UInt8} : ∀ {l : List UInt8}, Lib.indexByte l b = -1 → b ∉ l
  | [], _ => by simp
  | c :: l, h => by
    unfold Lib.indexByte at h
    split at h
    · cases h
    · rename_i hc
      have hc : ¬ c = b := fun e => hc (by simp [e])
      split at h
      · rename_i h2
        have := ib_none (eq_of_beq h2)
        simp [this, Ne.symm hc]
      · have := Lib.indexByte_ge l b; omega
theorem ib_some {b : UInt8} : ∀ {l : List UInt8} {i : Nat}, Lib.indexByte l b = i → l = l.take i ++ b :: l.drop (i + 1) ∧ b ∉ l.take i
  | [], i, h => by unfold Lib.indexByte at h; omega
  | c :: l, i, h => by
    unfold Lib.indexByte at h
    split at h
    · rename_i hc
      have hc : c = b := by simpa using hc
      have hi : i = 0 := by omega
      subst hi; subst hc
      simp
    · rename_i hc
      have hc : ¬ c = b := fun e => hc (by simp [e])
      split at h
      · omega
      · have hg := Lib.indexByte_ge l b
        obtain ⟨j, rfl⟩ : ∃ j, i = j + 1 := ⟨i - 1, by rename_i h2; have : ¬ Lib.indexByte l b = -1 := fun e => h2 (by simp [e]); omega⟩
        obtain ⟨h1, h2⟩ := ib_some (l := l) (i := j) (b := b) (by omega)
        refine ⟨?_, ?_⟩
        · show c :: l = c :: (l.take j ++ b :: l.drop (j + 1))
          rw [← h1]
        · show b ∉ c :: l.take j
          simp [h2, Ne.symm hc]
theorem splitK_pts (b : UInt8) : ∀ (n : Nat) (l : List UInt8), l.length ≤ n → Lib.splitK [b] 0 (Lib.count l [b]) l = pts b l := by
  intro n
  induction n with
  | zero =>
    intro l h
    have : l = [] := List.eq_nil_of_length_eq_zero (by omega)
    subst this
    rw [Lib.count_miss (by rw [Lib.index_one]; rfl)]; rfl
  | succ n ih =>
    intro l h
    by_cases hi : Lib.indexByte l b = -1
    · rw [Lib.count_miss (by rw [Lib.index_one]; exact hi), pts_no (ib_none hi)]; rfl
    · have hg := Lib.indexByte_ge l b
      obtain ⟨i, hi2⟩ := Int.eq_ofNat_of_zero_le (show 0 ≤ Lib.indexByte l b by omega)
      obtain ⟨h1, h2⟩ := ib_some hi2
      have hx : Lib.index l [b] = i := by rw [Lib.index_one]; exact hi2
      have hl : i < l.length := by
        have := congrArg List.length h1
        rw [List.length_append, List.length_cons, List.length_take, List.length_drop] at this
        omega
      have hp : pts b l = l.take i :: pts b (l.drop (i + 1)) := (congrArg (pts b) h1).trans (pts_at _ h2)
      rw [Lib.count_hit (by simp) hx, Nat.add_comm, hp]
      unfold Lib.splitK
      rw [hx, if_neg (by simp)]
      refine congr (congrArg List.cons rfl) ?_
      exact ih (l.drop (i + 1)) (by rw [List.length_drop]; omega)
theorem pts_len {b : UInt8} : ∀ {l : List UInt8}, ∀ x ∈ pts b l, x.length ≤ l.length
  | [], x, h => by simp [pts] at h; subst h; exact Nat.le_refl _
  | c :: l, x, h => by
    unfold pts at h
    have ih := @pts_len b l
    split at h
    · rcases List.mem_cons.1 h with h | h
      · subst h; exact Nat.zero_le _
      · have := ih x h; rw [List.length_cons]; omega
    · cases hp : pts b l with
      | nil => rw [hp] at h; simp [consH] at h; subst h; simp
      | cons y r =>
        rw [hp] at h ih
        simp only [consH, List.mem_cons] at h
        rcases h with h | h
        · subst h; have := ih y (List.mem_cons_self ..); simp; omega
        · have := ih x (List.mem_cons_of_mem _ h); rw [List.length_cons]; omega
theorem pts_many {b : UInt8} : ∀ l : List UInt8, (pts b l).length ≤ l.length + 1
  | [] => Nat.le_refl _
  | c :: l => by
    have ih := pts_many (b := b) l
    unfold pts
    split
    · rw [List.length_cons, List.length_cons]; omega
    · cases hp : pts b l with
      | nil => simp [consH]
      | cons y r => rw [hp] at ih; simp [consH] at ih ⊢; omega
def ba (l : List UInt8) : ByteArray := ⟨l.toArray⟩
theorem ba_of (s : ByteArray) : ba s.data.toList = s := by
  apply ByteArray.ext
  simp [ba]
theorem ba_size (l : List UInt8) : (ba l).size = l.length := by show (List.toArray l).size = _; simp
def parts (b : UInt8) (s : ByteArray) : List ByteArray := (pts b s.data.toList).map ba
theorem splitL_parts (b : UInt8) (s : ByteArray) : splitL s ⟨#[b]⟩ = parts b s := by
  have h := Lib.splitB_data ⟨#[b]⟩ 0 (Lib.countB s ⟨#[b]⟩) s
  have hk : Lib.splitK [b] 0 (Lib.countB s ⟨#[b]⟩) s.data.toList = pts b s.data.toList := splitK_pts b _ _ (Nat.le_refl _)
  have h2 : (splitL s ⟨#[b]⟩).map (·.data.toList) = pts b s.data.toList := h.trans hk
  unfold parts
  rw [← h2, List.map_map]
  have : (ba ∘ fun x : ByteArray => x.data.toList) = id := by funext x; exact ba_of x
  rw [this, List.map_id]
theorem parts_size {b : UInt8} {s : ByteArray} : ∀ p ∈ parts b s, p.size ≤ s.size := by
  intro p hp
  obtain ⟨x, hx, rfl⟩ := List.mem_map.1 hp
  rw [ba_size]
  have := pts_len x hx
  rwa [Array.length_toList] at this
theorem parts_many (b : UInt8) (s : ByteArray) : (parts b s).length ≤ s.size + 1 := by
  unfold parts
  rw [List.length_map]
  have := pts_many (b := b) s.data.toList
  rwa [Array.length_toList] at this
end Go.Proofs.YtjnonfcemicmoaaDoor.AE
namespace Go.Proofs.YtjnonfcemicmoaaDoor.AE
open Go.RowKit
theorem pt_sl : slotsOf 24 = 35 := by kernel_rfl
theorem pt_re : resultsOf 24 = [.tmp 4] := by kernel_rfl
theorem pt_fl : (flatten (bodyOf 24)).drop 4 = .block 0 (.loop (sub (bodyOf 24) [1, 1, 1, 0, 1, 0, 0])) :: (flatten (bodyOf 24)).drop 5 := by kernel_rfl
theorem ext_ba (s : ByteArray) (f i : Nat) : s.extract f i = ba ((s.data.toList.take i).drop f) := by
  apply ba_ext
  rw [ByteArray.data_extract]
  show _ = (List.toArray _).toList
  simp [List.drop_take]
theorem take_add1 {α : Type} (l : List α) (f i : Nat) (x : α) (hf : f ≤ i) (h : l[i]? = some x) : (l.take (i + 1)).drop f = (l.take i).drop f ++ [x] := by
  rw [List.take_add_one, h]
  have hl := (List.getElem?_eq_some_iff.1 h).1
  rw [List.drop_append_of_le_length (by rw [List.length_take]; omega)]
  rfl
theorem drop_parts {α : Type} (l : List α) (f i : Nat) (x : α) (hf : f ≤ i) (h : l[i]? = some x) : l.drop f = (l.take i).drop f ++ x :: l.drop (i + 1) := by
  have hl := (List.getElem?_eq_some_iff.1 h)
  have e : l = l.take i ++ x :: l.drop (i + 1) := by
    have := List.drop_eq_getElem_cons hl.1
    rw [hl.2] at this
    rw [← this, List.take_append_drop]
  conv => lhs; rw [e]
  rw [List.drop_append_of_le_length (by rw [List.length_take]; have := hl.1; omega)]
theorem fs_parts (s : ByteArray) (b : UInt8) (hs : s.size ≤ 100000) : Fs Tryd.prog nro 24 [.v (.string s), .v (.int .u8 (b.toNat : Nat))] (hp [] []) fun r _ => clean r = some (.lst 1 ((parts b s).map sv) .no) := by
  refine Fs.of_body (has_fn (by kernel_rfl)) ?_
  rw [pt_sl, pt_re]
  refine Tr.of_flat (Trl.split 4 (Trl.of_code (known_none _) (ne_nil (by kernel_rfl)) (pt_pre s _ _) ⟨trivial, ?_⟩))
  show Trl _ _ ((flatten (bodyOf 24)).drop 4) _ _ _
  rw [pt_fl]
  refine Trl.nilTip 5 1 rfl rfl ?_
  let L := s.data.toList
  have hL : L.length = s.size := by show s.data.toList.length = _; rw [Array.length_toList]; rfl
  let I : Nat → List AV → AH → Prop := fun m act H => ∃ (i f : Nat) (os : List (List UInt8)) (ver : Nat), i ≤ L.length + 1 ∧ m = L.length + 1 - i ∧ os.length ≤ i ∧ act = ptA s (b.toNat : Nat) f i (.lst 1 ((os.map ba).map sv) (.tp 0 ver)) ∧ H = hp [] [ver] ∧
    ((f ≤ i ∧ i ≤ L.length ∧ pts b L = os ++ pts b (L.drop f) ∧ b ∉ (L.take i).drop f) ∨ (i = L.length + 1 ∧ pts b L = os))
  refine Tr.block (Tr.loop I ?_ (m := L.length + 1) ⟨0, 0, [], 0, Nat.zero_le _, rfl, Nat.le_refl _, rfl, rfl, .inl ⟨Nat.le_refl _, Nat.zero_le _, rfl, by simp⟩⟩)
  rintro m act H ⟨i, f, os, ver, hi, rfl, hos, rfl, rfl, hI⟩
  have body := fun R => pt_in s (b.toNat : Nat) f i (os.map ba) ver R
  rw [inc64 i (by omega)] at body
  have len : ∀ x : AV, ((((List.map sv (os.map ba)).length + [x].length) * 16 ≤ 140737488355328 ∧ (List.map sv (os.map ba)).length + [x].length ≤ 9223372036854775807) ∧ ver = ver) := fun x => by
    simp only [List.length_map, List.length_cons, List.length_nil, and_true]; omega
  have snoc : ∀ x : List UInt8, (List.map sv (os.map ba)) ++ [AV.v (.string (ba x))] = ((os ++ [x]).map ba).map sv := fun x => by rw [List.map_append, List.map_append]; rfl
  refine Tr.of_code (known_none _) (body _) (holds_bif (fun h1 => ?_) fun h1 => ⟨trivial, ?_⟩)
  · have h1 : i ≤ L.length := by have := of_decide_eq_true h1; omega
    obtain ⟨hf, _, hp, hn⟩ : f ≤ i ∧ i ≤ L.length ∧ pts b L = os ++ pts b (L.drop f) ∧ b ∉ (L.take i).drop f := by
      rcases hI with hI | ⟨hI, _⟩
      · exact hI
      · omega
    have eF : Int.toNat (f : Int) = f := rfl
    have eI : Int.toNat (i : Int) = i := rfl
    have ex := ext_ba s f i
    refine holds_bif (fun h2 => ⟨?_, ?_⟩) (fun h2 => holds_bif (fun h3 => ⟨?_, ?_⟩) (fun h3 => ⟨?_, ?_⟩))
    · with_reducible exact cdb_iff.2 ⟨cdb_iff.2 ⟨trivial, decide_eq_true (by omega)⟩, decide_eq_true (len _)⟩
    · have h2 : i = L.length := by have := eq_of_beq h2; omega
      refine ⟨L.length + 1 - (i + 1), by omega, i + 1, i + 1, os ++ [(L.take i).drop f], ver + 1, by omega, rfl, by simp; omega, ?_, rfl, .inr ⟨by omega, ?_⟩⟩
      · rw [eF, eI, ex, snoc]; rfl
      · rw [hp]
        subst h2
        rw [List.take_length] at hn ⊢
        rw [pts_no hn]
    · with_reducible exact cdb_iff.2 ⟨cdb_iff.2 ⟨cdb_iff.2 ⟨trivial, decide_eq_true (by have := ne_of_beq_false h2; omega)⟩, decide_eq_true (by omega)⟩, decide_eq_true (len _)⟩
    · have h2 : i < L.length := by have := ne_of_beq_false h2; omega
      have hb : L[i]? = some b := by
        have h3 : ((s.data.getD i 0).toNat : Int) = (b.toNat : Nat) := eq_of_beq h3
        have h4 : s.data.getD i 0 = b := UInt8.toNat_inj.1 (by omega)
        have hd := drop_at s i (by omega)
        rw [h4] at hd
        have : (L.drop i)[0]? = some b := by rw [show L.drop i = _ from hd]; rfl
        rwa [List.getElem?_drop, Nat.add_zero] at this
      refine ⟨L.length + 1 - (i + 1), by omega, i + 1, i + 1, os ++ [(L.take i).drop f], ver + 1, by omega, rfl, by simp; omega, ?_, rfl, .inl ⟨Nat.le_refl _, h2, ?_, ?_⟩⟩
      · rw [eF, eI, ex, snoc]; rfl
      · rw [hp, drop_parts L f i b hf hb, pts_at _ hn, List.append_assoc]; rfl
      · rw [List.drop_eq_nil_of_le (by rw [List.length_take]; omega)]; simp
    · with_reducible exact cdb_iff.2 ⟨trivial, decide_eq_true (by have := ne_of_beq_false h2; omega)⟩
    · have h2 : i < L.length := by have := ne_of_beq_false h2; omega
      have hb : L[i]? = some (s.data.getD i 0) := by
        have hd := drop_at s i (by omega)
        have : (L.drop i)[0]? = some (s.data.getD i 0) := by rw [show L.drop i = _ from hd]; rfl
        rwa [List.getElem?_drop, Nat.add_zero] at this
      have hne : s.data.getD i 0 ≠ b := fun e => by
        have h3 : ¬ ((s.data.getD i 0).toNat : Int) = (b.toNat : Nat) := ne_of_beq_false h3
        rw [e] at h3; exact h3 rfl
      refine ⟨L.length + 1 - (i + 1), by omega, i + 1, f, os, ver, by omega, rfl, by omega, rfl, rfl, .inl ⟨by omega, h2, hp, ?_⟩⟩
      rw [take_add1 L f i _ hf hb]
      intro hm
      rcases List.mem_append.1 hm with hm | hm
      · exact hn hm
      · exact hne (List.mem_singleton.1 hm).symm
  · have h1 : i = L.length + 1 := by have := of_decide_eq_false h1; omega
    have hp : pts b L = os := by
      rcases hI with hI | ⟨_, hI⟩
      · omega
      · exact hI
    show Trl _ _ ((flatten (bodyOf 24)).drop 5) _ _ _
    refine Trl.of_code (known_none _) (ne_nil (by kernel_rfl)) (pt_post s _ _ _ (os.map ba) ver _) ⟨trivial, .inr rfl, trivial, ?_⟩
    show some (AV.lst 1 ((os.map ba).map sv) .no) = _
    rw [← hp]; rfl
/-- The numbers of texts. -/
def prs : List ByteArray → Option (List Int)
  | [] => some []
  | p :: r => if dpY p = 0 then (match prs r with
    | some l => some (dpX p :: l)
    | none => none) else none
theorem prs_cons (p : ByteArray) (r : List ByteArray) : prs (p :: r) = if dpY p = 0 then (match prs r with | some l => some (dpX p :: l) | none => none) else none := rfl
def pre? (zs : List Int) (x : Option (List Int)) : Option (List Int) := match x with
  | some l => some (zs ++ l)
  | none => none
def plS (s : ByteArray) : Option (List Int) := if s = dash then some [] else prs (parts 44 s)
def plX (s : ByteArray) : List Int := match plS s with
  | some l => l
  | none => []
def plE (s : ByteArray) : Int := match plS s with
  | some _ => 0
  | none => 2
theorem dpY_two (s : ByteArray) (h : ¬ dpY s = 0) : dpY s = 2 := by
  unfold dpY at h ⊢
  split
  · rename_i v hv
    rw [hv] at h
    simp only at h
    split
    · rename_i e; rw [if_pos e] at h; exact absurd rfl h
    · rfl
  · rfl
theorem beq_dash (s : ByteArray) : (s.toList == [(45 : UInt8)]) = decide (s = dash) := by
  rw [Bool.eq_iff_iff, beq_iff_eq, decide_eq_true_eq, ByteArray.toList_eq]
  exact ⟨fun h => ba_ext h, fun h => by rw [h]; rfl⟩
theorem pre_step {zs : List Int} {p : ByteArray} {r : List ByteArray} (h : dpY p = 0) : pre? zs (prs (p :: r)) = pre? (zs ++ [dpX p]) (prs r) := by
  rw [prs_cons, if_pos h]
  cases prs r with
  | none => rfl
  | some l => simp [pre?]
theorem pl_sl : slotsOf 15 = 32 := by kernel_rfl
theorem pl_re : resultsOf 15 = [.tmp 2, .tmp 3] := by kernel_rfl
theorem pl_fl : (flatten (bodyOf 15)).drop 5 = .block 0 (.loop (sub (bodyOf 15) [1, 1, 1, 0, 1, 0, 0])) :: (flatten (bodyOf 15)).drop 6 := by kernel_rfl
def plV (s : ByteArray) : AV := .tuple [.lst 1 ((plX s).map gi) .no, .v (.int .i64 (plE s))]
theorem plV_some {s : ByteArray} {l : List Int} (h : plS s = some l) : plV s = .tuple [.lst 1 (l.map gi) .no, .v (.int .i64 0)] := by
  unfold plV plX plE; rw [h]
theorem plV_none {s : ByteArray} (h : plS s = none) : plV s = .tuple [.lst 1 [] .no, .v (.int .i64 2)] := by
  unfold plV plX plE; rw [h]; rfl
theorem fs_plist (m : Int) (tS tR : TypeId) (pS pR : Value) (s : ByteArray) (hs : s.size ≤ 99999) : Fs Tryd.prog (roS m tS pS tR pR) 15 [.v (.string s)] (hp [] []) fun r _ => ∃ y, clean r = some y ∧ Le y (plV s) := by
  refine Fs.of_body (has_fn (by kernel_rfl)) ?_
  rw [pl_sl, pl_re]
  have hsp : splitOk [.v (.string s), .v (.string ⟨#[44]⟩)] = true := by
    show decide (s.size < 4294967281 ∧ 1 ≤ 1) = true
    exact decide_eq_true (by omega)
  have pre := fun R => pl_pre m tS tR pS pR s R
  refine Tr.of_flat (Trl.split 5 (Trl.of_code knownS (ne_nil (by kernel_rfl)) (pre _) (holds_bif (fun h => ⟨trivial, .inr rfl, trivial, ?_⟩) fun h => ⟨?_, ?_⟩)))
  · have h : s = dash := of_decide_eq_true ((beq_dash s).symm.trans h)
    refine ⟨_, rfl, ?_⟩
    rw [plV_some (show plS s = some [] by unfold plS; rw [if_pos h])]
    exact Le.nilPair 1 _
  · with_reducible exact cdb_iff.2 ⟨trivial, hsp⟩
  have h : ¬ s = dash := of_decide_eq_false ((beq_dash s).symm.trans h)
  show Trl _ _ ((flatten (bodyOf 15)).drop 5) _ _ _
  rw [pl_fl]
  refine Tr.keepL [4, 12, 13, 14] rfl ?_
  refine Trl.nilTip 4 1 rfl rfl ?_
  show Trl _ _ _ (plA (splitL s ⟨#[44]⟩) .exact (((splitL s ⟨#[44]⟩).map sv).length : Nat) 0 (.lst 1 [] (.tp 0 0))) (hp [] [0]) _
  rw [splitL_parts, List.length_map]
  have hps : plS s = prs (parts 44 s) := by unfold plS; rw [if_neg h]
  have hps1 := @parts_size 44 s
  have hps2 := parts_many 44 s
  generalize parts 44 s = ss at hps hps1 hps2
  let I : Nat → List AV → AH → Prop := fun m act H => ∃ (i : Nat) (zs : List Int) (ver : Nat), i ≤ ss.length ∧ m = ss.length - i ∧ zs.length = i ∧ act = plA ss .exact (ss.length : Nat) i (.lst 1 (zs.map gi) (.tp 0 ver)) ∧ H = hp [] [ver] ∧ prs ss = pre? zs (prs (ss.drop i))
  refine Tr.block (Tr.loop I ?_ (m := ss.length) ⟨0, [], 0, Nat.zero_le _, rfl, rfl, rfl, rfl, by rw [List.drop_zero]; cases prs ss <;> rfl⟩)
  rintro m' act H ⟨i, zs, ver, hi, rfl, hzl, rfl, rfl, hp⟩
  refine Tr.of_code knownS (pl_in m tS tR pS pR ss .exact (ss.length : Nat) i zs ver _) (holds_bif (fun h1 => ?_) fun h1 => ⟨trivial, ?_⟩)
  · have h1 : i < ss.length := by have := of_decide_eq_true h1; omega
    have hg : (ss.map sv)[Int.toNat (i : Int)]? = some (.v (.string ss[i])) := sv_get h1
    have hz := hps1 _ (List.getElem_mem h1)
    rw [List.drop_eq_getElem_cons h1] at hp
    rw [sv_ex h1, inc64 i (by omega)]
    refine holds_bif (fun h2 => ⟨?_, .inr rfl, trivial, ?_⟩) (fun h2 => ⟨?_, ?_⟩)
    · with_reducible exact cdb_iff.2 ⟨cds_of trivial ⟨Int.natCast_nonneg i, hg⟩, decide_eq_true (by omega)⟩
    · have h2 : ¬ dpY ss[i] = 0 := by simpa using h2
      rw [prs_cons, if_neg h2] at hp
      refine ⟨_, rfl, ?_⟩
      rw [plV_none (hps.trans hp), dpY_two _ h2]
      exact Le.nilPair 1 _
    · with_reducible refine cdb_iff.2 ⟨cdb_iff.2 ⟨cds_of trivial ⟨Int.natCast_nonneg i, hg⟩, decide_eq_true (by omega)⟩, decide_eq_true ?_⟩
      simp only [List.length_map, List.length_cons, List.length_nil, and_true]
      omega
    · have h2 : dpY ss[i] = 0 := by simpa using h2
      rw [pre_step h2] at hp
      exact ⟨ss.length - (i + 1), by omega, i + 1, zs ++ [dpX ss[i]], ver + 1, h1, rfl, by rw [List.length_append, hzl]; rfl, by rw [List.map_append]; rfl, rfl, hp⟩
  · have h1 : i = ss.length := by have := of_decide_eq_false h1; omega
    subst h1
    rw [List.drop_length] at hp
    show Trl _ _ ((flatten (bodyOf 15)).drop 6) _ _ _
    refine Trl.of_code knownS (ne_nil (by kernel_rfl)) (pl_post m tS tR pS pR ss _ _ _ zs ver _) ⟨trivial, .inr rfl, trivial, ?_⟩
    refine ⟨_, rfl, ?_⟩
    rw [plV_some (hps.trans (hp.trans (show pre? zs (prs []) = some zs by simp [prs, pre?])))]
    exact Le.refl _
theorem rp_sl : slotsOf 16 = 35 := by kernel_rfl
theorem rp_re : resultsOf 16 = [.tmp 2, .tmp 3] := by kernel_rfl
theorem rp_fl : (flatten (bodyOf 16)).drop 6 = .block 0 (.loop (sub (bodyOf 16) [1, 1, 1, 1, 0, 1, 0, 0])) :: (flatten (bodyOf 16)).drop 7 := by kernel_rfl
def partsV (args : List AV) : AV := match args with
  | [.v (.string s), .v (.int .u8 b)] => .lst 1 ((parts (UInt8.ofNat b.toNat) s).map sv) .no
  | _ => .dead
def partsOk (args : List AV) : Bool := match args with
  | [.v (.string s), .v (.int .u8 b)] => decide (s.size ≤ 100000 ∧ 0 ≤ b ∧ b < 256)
  | _ => false
theorem parts_ok (ro : Nat → Option (List Value)) : ∀ args H r H', tot? partsV partsOk args H = some (r, H') → HSound1 Tryd.prog ro 24 args H r H' := by
  refine tot_ok (has_fn (by kernel_rfl)) fun args hok => ?_
  unfold partsOk at hok
  split at hok
  · rename_i s b
    obtain ⟨h1, h2, h3⟩ := of_decide_eq_true hok
    obtain ⟨b, rfl⟩ := Int.eq_ofNat_of_zero_le h2
    have hb : (UInt8.ofNat b).toNat = b := UInt8.toNat_ofNat_of_lt' (by show b < 256; omega)
    have := Fs.ro (fs_parts s (UInt8.ofNat b) h1) ro
    rw [hb] at this
    exact ⟨_, rfl, this.mono fun r _ h => ⟨_, h, Le.refl _⟩⟩
  · cases hok
end Go.Proofs.YtjnonfcemicmoaaDoor.AE
namespace Go.Proofs.YtjnonfcemicmoaaDoor.AE
open Go.RowKit
noncomputable def prP (f : ByteArray → List ByteArray) : FuncId → Option (List AV → AH → Ans) := fun g => match g with
  | 8 => some (pure? rparseP)
  | 24 => some (tot? (fun args => .lst 1 ((f (exStr (args.headD .dead))).map sv) .no) (fun args => partsOk args && (match args with
    | [_, .v (.int .u8 b)] => decide (b = 44)
    | _ => false)))
  | _ => none
theorem knownPp (ro : Nat → Option (List Value)) : Known ro (prP (parts 44)) := by
  intro g p h
  unfold prP at h
  split at h
  · cases h; exact rparse_ok _
  · cases h
    intro args H r H' hd
    unfold tot? at hd
    cases hd
    by_cases hk : (partsOk args && (match args with | [_, .v (.int .u8 b)] => decide (b = 44) | _ => false)) = true
    · have hk' := hk
      simp only [Bool.and_eq_true] at hk
      have hv : partsV args = .lst 1 ((parts 44 (exStr (args.headD .dead))).map sv) .no ∧ partsOk args = true := by
        refine ⟨?_, hk.1⟩
        have h1 := hk.1
        have h2 := hk.2
        unfold partsOk at h1
        split at h1
        · have h2 := of_decide_eq_true h2
          subst h2
          rfl
        · cases h1
      have := parts_ok ro args H _ _ (show tot? partsV partsOk args H = some (_, _) from rfl)
      rw [hv.1, hv.2] at this
      dsimp only
      rw [hk']
      exact this
    · refine ⟨⟨fun x => (cdb_iff.1 x).1, rfl, rfl, rfl, Nat.le_refl _, Nat.le_refl _, fun _ _ _ => rfl, fun _ _ _ => rfl⟩, fun hcd => absurd (cdb_iff.1 hcd).2 hk⟩
  · cases h
theorem rp_pre2 (f : ByteArray → List ByteArray) (s : ByteArray) (R : Exit → List AV → AH → Prop) : codeL nro (fun _ => false) (prP f) 5 ((flatten (bodyOf 16)).take 6) ([.v (.string s)] ++ List.replicate 34 (.v undef)) (hp [] []) (kp [2, 3, 4, 5, 6] R) =
    (bif ((ByteArray.toList s) == [(Array.getD #[(@OfNat.ofNat UInt8 (45 : Nat) (@UInt8.instOfNat 45))] (0 : Nat) (UInt8.ofBitVec (BitVec.ofFin (Fin.mk (0 : Nat) instInhabitedUInt8._proof_1))))]) then (some (True ∧ (R Exit.ret [AV.dead, AV.dead, (AV.v (Value.slice none (0 : Nat) (0 : Nat))), (AV.v (Value.int IntKind.i64 (0 : Int))), (AV.v (Value.tuple (Array.mk (@List.nil Go.Value)))), (AV.v (Value.tuple (Array.mk (@List.nil Go.Value)))), (AV.v (Value.tuple (Array.mk (@List.nil Go.Value)))), AV.dead, AV.dead, AV.dead, AV.dead, AV.dead, AV.dead, AV.dead, AV.dead, AV.dead, AV.dead, AV.dead, AV.dead, AV.dead, AV.dead, AV.dead, AV.dead, AV.dead, AV.dead, AV.dead, AV.dead, AV.dead, AV.dead, AV.dead, AV.dead, AV.dead, AV.dead, AV.dead, AV.dead] (AH.mk (@List.nil (Prod Go.TypeId (List AV))) (@List.nil Nat) (0 : Nat) (0 : Nat) true (@List.nil (Prod Nat Bool)) True)))) else (some ((cdb True ((partsOk [(AV.v (Value.string s)), (AV.v (Value.int IntKind.u8 (44 : Int)))]) && true)) ∧ (R Exit.normal [AV.dead, AV.dead, (AV.v (Value.slice none (0 : Nat) (0 : Nat))), (AV.v (Value.int IntKind.i64 (0 : Int))), (AV.v (Value.slice none (0 : Nat) (0 : Nat))), (AV.lst (1 : Nat) (List.map sv (f s)) Tip.no), (AV.v (Value.int IntKind.i64 (0 : Int))), AV.dead, AV.dead, AV.dead, AV.dead, AV.dead, AV.dead, AV.dead, AV.dead, AV.dead, AV.dead, AV.dead, AV.dead, AV.dead, AV.dead, AV.dead, AV.dead, AV.dead, AV.dead, AV.dead, AV.dead, AV.dead, AV.dead, AV.dead, AV.dead, AV.dead, AV.dead, AV.dead, AV.dead] (AH.mk (@List.nil (Prod Go.TypeId (List AV))) (@List.nil Nat) (0 : Nat) (0 : Nat) true (@List.nil (Prod Nat Bool)) True))))) := by kernel_rfl
end Go.Proofs.YtjnonfcemicmoaaDoor.AE
namespace Go.Proofs.YtjnonfcemicmoaaDoor.AE
open Go.RowKit
theorem fs_rplist (s : ByteArray) (hs : s.size ≤ 99999) : Fs Tryd.prog nro 16 [.v (.string s)] (hp [] []) fun r _ => ∃ y, clean r = some y ∧ Le y (plV s) := by
  refine Fs.of_body (has_fn (by kernel_rfl)) ?_
  rw [rp_sl, rp_re]
  have hsp : (partsOk [.v (.string s), .v (.int .u8 44)] && true) = true := by
    rw [Bool.and_true]
    exact decide_eq_true (by omega)
  refine Tr.of_flat (Trl.split 6 (Trl.of_code (knownPp _) (ne_nil (by kernel_rfl)) (rp_pre2 (parts 44) s _) (holds_bif (fun h => ⟨trivial, .inr rfl, trivial, ?_⟩) fun h => ⟨?_, ?_⟩)))
  · have h : s = dash := of_decide_eq_true ((beq_dash s).symm.trans h)
    refine ⟨_, rfl, ?_⟩
    rw [plV_some (show plS s = some [] by unfold plS; rw [if_pos h])]
    exact Le.nilPair 1 _
  · with_reducible exact cdb_iff.2 ⟨trivial, hsp⟩
  have h : ¬ s = dash := of_decide_eq_false ((beq_dash s).symm.trans h)
  show Trl _ _ ((flatten (bodyOf 16)).drop 6) _ _ _
  rw [rp_fl]
  refine Tr.keepL [4, 5, 6] rfl ?_
  refine Trl.nilTip 4 1 rfl rfl ?_
  show Trl _ _ _ (rpA (parts 44 s) 0 (.lst 1 [] (.tp 0 0))) (hp [] [0]) _
  have hps : plS s = prs (parts 44 s) := by unfold plS; rw [if_neg h]
  have hps1 := @parts_size 44 s
  have hps2 := parts_many 44 s
  generalize parts 44 s = ss at hps hps1 hps2
  have lc : (((ss.map sv).length : Nat) : Int) = (ss.length : Nat) := by rw [List.length_map]
  let I : Nat → List AV → AH → Prop := fun m act H => ∃ (i : Nat) (zs : List Int) (ver : Nat), i ≤ ss.length ∧ m = ss.length - i ∧ zs.length = i ∧ act = rpA ss i (.lst 1 (zs.map gi) (.tp 0 ver)) ∧ H = hp [] [ver] ∧ prs ss = pre? zs (prs (ss.drop i))
  refine Tr.block (Tr.loop I ?_ (m := ss.length) ⟨0, [], 0, Nat.zero_le _, rfl, rfl, rfl, rfl, by rw [List.drop_zero]; cases prs ss <;> rfl⟩)
  rintro m' act H ⟨i, zs, ver, hi, rfl, hzl, rfl, rfl, hp⟩
  have body := fun R => rp_in ss i zs ver R
  rw [lc] at body
  refine Tr.of_code (knownT _) (body _) (holds_bif (fun h1 => ?_) fun h1 => ⟨trivial, ?_⟩)
  · have h1 : i < ss.length := by have := of_decide_eq_true h1; omega
    have hg : (ss.map sv)[Int.toNat (i : Int)]? = some (.v (.string ss[i])) := sv_get h1
    have hz := hps1 _ (List.getElem_mem h1)
    rw [List.drop_eq_getElem_cons h1] at hp
    rw [sv_ex h1, inc64 i (by omega)]
    refine holds_bif (fun h2 => ⟨?_, .inr rfl, trivial, ?_⟩) (fun h2 => ⟨?_, ?_⟩)
    · with_reducible exact cdb_iff.2 ⟨cds_of trivial ⟨Int.natCast_nonneg i, hg⟩, decide_eq_true (by omega)⟩
    · have h2 : ¬ dpY ss[i] = 0 := by simpa using h2
      rw [prs_cons, if_neg h2] at hp
      refine ⟨_, rfl, ?_⟩
      rw [plV_none (hps.trans hp), dpY_two _ h2]
      exact Le.nilPair 1 _
    · with_reducible refine cdb_iff.2 ⟨cdb_iff.2 ⟨cds_of trivial ⟨Int.natCast_nonneg i, hg⟩, decide_eq_true (by omega)⟩, decide_eq_true ?_⟩
      simp only [List.length_map, List.length_cons, List.length_nil, and_true]
      omega
    · have h2 : dpY ss[i] = 0 := by simpa using h2
      rw [pre_step h2] at hp
      exact ⟨ss.length - (i + 1), by omega, i + 1, zs ++ [dpX ss[i]], ver + 1, h1, rfl, by rw [List.length_append, hzl]; rfl, by rw [List.map_append]; rfl, rfl, hp⟩
  · have h1 : i = ss.length := by have := of_decide_eq_false h1; omega
    subst h1
    rw [List.drop_length] at hp
    show Trl _ _ ((flatten (bodyOf 16)).drop 7) _ _ _
    refine Trl.of_code (knownT _) (ne_nil (by kernel_rfl)) (rp_post ss _ zs ver _) ⟨trivial, .inr rfl, trivial, ?_⟩
    refine ⟨_, rfl, ?_⟩
    rw [plV_some (hps.trans (hp.trans (show pre? zs (prs []) = some zs by simp [prs, pre?])))]
    exact Le.refl _
theorem sa_sl : slotsOf 19 = 32 := by kernel_rfl
theorem sa_re : resultsOf 19 = [.tmp 4] := by kernel_rfl
theorem sa_fl : (flatten (bodyOf 19)).drop 4 = .block 0 (.loop (sub (bodyOf 19) [1, 1, 0, 1, 0, 0])) :: (flatten (bodyOf 19)).drop 5 := by kernel_rfl
theorem fs_same (a b : List Int) (ha : a.length ≤ 1000000) : Fs Tryd.prog nro 19 [.lst 1 (a.map gi) .no, .lst 1 (b.map gi) .no] (hp [] []) fun r _ => r = .v (.bool (decide (a = b))) := by
  refine Fs.of_body (has_fn (by kernel_rfl)) ?_
  rw [sa_sl, sa_re]
  have pre := fun R => sa_pre a b R
  rw [len_cast, len_cast] at pre
  refine Tr.of_flat (Trl.split 4 (Trl.of_code (known_none _) (ne_nil (by kernel_rfl)) (pre _) (holds_bif (fun h => ⟨trivial, .inr rfl, trivial, ?_⟩) fun h => ⟨trivial, ?_⟩)))
  · have h : ¬ a = b := by rintro rfl; simp at h
    rw [decide_eq_false h]; rfl
  have hlen : a.length = b.length := by simp at h; omega
  show Trl _ _ ((flatten (bodyOf 19)).drop 4) _ _ _
  rw [sa_fl]
  refine Tr.keepL [0, 1, 5] rfl ?_
  let I : Nat → List AV → AH → Prop := fun m act H => ∃ i : Nat, i ≤ a.length ∧ m = a.length - i ∧ act = sA (.lst 1 (a.map gi) .no) (.lst 1 (b.map gi) .no) i ∧ H = hp [] [] ∧ a.take i = b.take i
  refine Tr.block (Tr.loop I ?_ (m := a.length) ⟨0, Nat.zero_le _, rfl, rfl, rfl, rfl⟩)
  rintro m act H ⟨i, hi, rfl, rfl, rfl, hp⟩
  have body := fun R => sa_in a b i R
  rw [len_cast, len_cast, inc64 i (by omega)] at body
  have fin : i = a.length → Trl Tryd.prog nro ((flatten (bodyOf 19)).drop 5) (sA (.lst 1 (a.map gi) .no) (.lst 1 (b.map gi) .no) i) (AE.hp [] []) fun e a' h => (e = .normal ∨ e = .ret) ∧ ansOk (fun r _ => r = .v (.bool (decide (a = b)))) (resOf Tryd.prog nro [.tmp 4] a' h) := fun h1 => by
    have hab : a = b := by
      rw [h1, List.take_length, hlen, List.take_length] at hp; exact hp
    refine Trl.of_code (known_none _) (ne_nil (by kernel_rfl)) (sa_post _ _ _ _) ⟨trivial, .inr rfl, trivial, ?_⟩
    rw [decide_eq_true hab]; rfl
  refine Tr.of_code (known_none _) (body _) (holds_bif (fun h1 => holds_bif (fun h2 => ?_) (fun h2 => ?_)) fun h1 => ⟨trivial, ?_⟩)
  · have h1 : i < a.length := by have := of_decide_eq_true h1; omega
    have h2 : i < b.length := by omega
    have g1 : (a.map gi)[Int.toNat (i : Int)]? = some (.v (.int .i64 a[i])) := gi_get h1
    have g2 : (b.map gi)[Int.toNat (i : Int)]? = some (.v (.int .i64 b[i])) := gi_get h2
    have h0 := Int.natCast_nonneg i
    rw [gi_ex h1, gi_ex h2]
    refine holds_bif (fun h3 => ⟨cds_of (cds_of trivial ⟨h0, g1⟩) ⟨h0, g2⟩, .inr rfl, trivial, ?_⟩) (fun h3 => ⟨cds_of (cds_of trivial ⟨h0, g1⟩) ⟨h0, g2⟩, a.length - (i + 1), by omega, i + 1, h1, rfl, rfl, rfl, ?_⟩)
    · have h3 : ¬ a[i] = b[i] := by simpa using h3
      have : ¬ a = b := by rintro rfl; exact h3 rfl
      rw [decide_eq_false this]; rfl
    · have h3 : a[i] = b[i] := by simpa using h3
      rw [take_snoc h1, take_snoc h2, hp, h3]
  · have h1 := of_decide_eq_true h1
    have h2 := of_decide_eq_false h2
    omega
  · exact fin (by have := of_decide_eq_false h1; omega)
/-! What is known of lists of numbers, over a function that gives a text's numbers. -/
def intsX (x : AV) : List Int := match intsA? x with
  | some l => l
  | none => []
def numsOk (x : AV) : Bool := match intsA? x with
  | some l => decide (l.length ≤ 100000) && l.all (fun z => decide (inR z))
  | none => false
theorem numsOk_some {x : AV} (h : numsOk x = true) : ∃ l, intsA? x = some l ∧ l.length ≤ 100000 ∧ ∀ z ∈ l, inR z := by
  unfold numsOk at h
  split at h
  · rename_i l hl
    simp only [Bool.and_eq_true, decide_eq_true_eq, List.all_eq_true] at h
    exact ⟨l, hl, h.1, h.2⟩
  · cases h
theorem numsOk_of {l : List Int} {tip : Tip} (h1 : l.length ≤ 100000) (h2 : ∀ z ∈ l, inR z) : numsOk (.lst 1 (l.map gi) tip) = true := by
  unfold numsOk
  rw [intsA_lst]
  simp only [Bool.and_eq_true, decide_eq_true_eq, List.all_eq_true]
  exact ⟨h1, h2⟩
def listV (f : AV → ByteArray) (args : List AV) : AV := .v (.string (f (args.headD .dead)))
def listOk (args : List AV) : Bool := match args with
  | [x] => numsOk x
  | _ => false
def listF (x : AV) : ByteArray := listS (intsX x)
theorem list_fs_any {ro : Nat → Option (List Value)} {g : FuncId} (hf : ∃ fn, Tryd.prog.funcs[g]? = some fn ∧ fn.body.isSome = true)
    (h : ∀ zs : List Int, zs.length ≤ 100000 → (∀ z ∈ zs, inR z) → Fs Tryd.prog ro g [.lst 1 (zs.map gi) .no] (hp [] []) fun r _ => r = .v (.string (listS zs))) :
    ∀ args H r H', tot? (listV listF) listOk args H = some (r, H') → HSound1 Tryd.prog ro g args H r H' := by
  refine tot_nrm hf fun args hok => ?_
  unfold listOk at hok
  split at hok
  · rename_i x
    obtain ⟨l, h1, h2, h3⟩ := numsOk_some hok
    obtain ⟨h4, h5⟩ := intsA_nrm h1
    refine ⟨by simp [h4], ?_⟩
    rw [List.map_cons, List.map_nil, h5]
    refine (h l h2 h3).mono fun r _ h => ?_
    subst h
    refine ⟨_, rfl, ?_⟩
    show Le (.v (.string (listS l))) (.v (.string (listS (intsX x))))
    unfold intsX
    rw [h1]
    exact Le.refl _
  · cases hok
theorem list_ok {m : Int} {tS tR : TypeId} {pS pR : Value} : ∀ args H r H', tot? (listV listF) listOk args H = some (r, H') → HSound1 Tryd.prog (roS m tS pS tR pR) 17 args H r H' :=
  list_fs_any (has_fn (by kernel_rfl)) fun zs h1 h2 => fs_list m tS tR pS pR zs h1 h2
theorem rlist_ok (ro : Nat → Option (List Value)) : ∀ args H r H', tot? (listV listF) listOk args H = some (r, H') → HSound1 Tryd.prog ro 18 args H r H' :=
  list_fs_any (has_fn (by kernel_rfl)) fun zs h1 h2 => Fs.ro (fs_rlist zs h1 h2) ro
def plistV (f : ByteArray → List Int) (g : ByteArray → Int) (args : List AV) : AV := .tuple [.lst 1 ((f (exStr (args.headD .dead))).map gi) .no, .v (.int .i64 (g (exStr (args.headD .dead))))]
def plistOk (args : List AV) : Bool := match args with
  | [.v (.string s)] => decide (s.size ≤ 99999)
  | _ => false
theorem plist_ok {m : Int} {tS tR : TypeId} {pS pR : Value} : ∀ args H r H', tot? (plistV plX plE) plistOk args H = some (r, H') → HSound1 Tryd.prog (roS m tS pS tR pR) 15 args H r H' := by
  refine tot_ok (has_fn (by kernel_rfl)) fun args hok => ?_
  unfold plistOk at hok
  split at hok
  · exact ⟨_, rfl, fs_plist _ _ _ _ _ _ (of_decide_eq_true hok)⟩
  · cases hok
theorem rplist_ok (ro : Nat → Option (List Value)) : ∀ args H r H', tot? (plistV plX plE) plistOk args H = some (r, H') → HSound1 Tryd.prog ro 16 args H r H' := by
  refine tot_ok (has_fn (by kernel_rfl)) fun args hok => ?_
  unfold plistOk at hok
  split at hok
  · exact ⟨_, rfl, Fs.ro (fs_rplist _ (of_decide_eq_true hok)) ro⟩
  · cases hok
def sameX (x y : AV) : Bool := decide (intsX x = intsX y)
def sameV (f : AV → AV → Bool) (args : List AV) : AV := .v (.bool (f (args.headD .dead) (args.tail.headD .dead)))
def sameOk (args : List AV) : Bool := match args with
  | [x, y] => (match intsA? x with | some l => decide (l.length ≤ 1000000) | none => false) && (match intsA? y with | some _ => true | none => false)
  | _ => false
theorem same_ok (ro : Nat → Option (List Value)) : ∀ args H r H', tot? (sameV sameX) sameOk args H = some (r, H') → HSound1 Tryd.prog ro 19 args H r H' := by
  refine tot_nrm (has_fn (by kernel_rfl)) fun args hok => ?_
  unfold sameOk at hok
  split at hok
  · rename_i x y
    simp only [Bool.and_eq_true] at hok
    obtain ⟨k1, k2⟩ := hok
    cases h1 : intsA? x with
    | none => rw [h1] at k1; cases k1
    | some a =>
      cases h2 : intsA? y with
      | none => rw [h2] at k2; cases k2
      | some b =>
        rw [h1] at k1
        obtain ⟨a4, a5⟩ := intsA_nrm h1
        obtain ⟨b4, b5⟩ := intsA_nrm h2
        refine ⟨by simp [a4, b4], ?_⟩
        rw [List.map_cons, List.map_cons, List.map_nil, a5, b5]
        refine (Fs.ro (fs_same a b (of_decide_eq_true k1)) ro).mono fun r _ h => ?_
        subst h
        refine ⟨_, rfl, ?_⟩
        show Le _ (.v (.bool (decide (intsX x = intsX y))))
        unfold intsX
        rw [h1, h2]
        exact Le.refl _
  · cases hok
end Go.Proofs.YtjnonfcemicmoaaDoor.AE
namespace Go.Proofs.YtjnonfcemicmoaaDoor.AE
open Go.RowKit
noncomputable def prL (f : AV → ByteArray) (X : ByteArray → List Int) (E : ByteArray → Int) (S : AV → AV → Bool) (T : Int → ByteArray) (P : ByteArray → Int) (Q : ByteArray → Int) (hx : Int → ByteArray) (pX' pE' : ByteArray → Int) : FuncId → Option (List AV → AH → Ans) := fun g => match g with
  | 17 => some (tot? (listV f) listOk)
  | 18 => some (tot? (listV f) listOk)
  | 15 => some (tot? (plistV X E) plistOk)
  | 16 => some (tot? (plistV X E) plistOk)
  | 19 => some (tot? (sameV S) sameOk)
  | 11 => some (pure? fun us => match us with
    | [.int .i64 n] => some (.string (T n), decide (-9223372036854775808 ≤ n ∧ n ≤ 9223372036854775807))
    | _ => none)
  | 7 => some (pure? fun us => match us with
    | [.string s] => some (.tuple #[.int .i64 (P s), .int .i64 (Q s)], decide (s.size ≤ 100000))
    | _ => none)
  | 13 => some (pure? (hexF hx))
  | 9 => some (pure? fun us => match us with
    | [.string s] => some (.tuple #[.int .u64 (pX' s), .int .i64 (pE' s)], true)
    | _ => none)
  | 6 => some (pure? awakeS)
  | _ => none
theorem knownL {m : Int} {tS tR : TypeId} {pS pR : Value} : Known (roS m tS pS tR pR) (prL listF plX plE sameX tx dpX dpY hexS pX pE) := by
  intro g p h
  unfold prL at h
  split at h
  · cases h; exact list_ok
  · cases h; exact rlist_ok _
  · cases h; exact plist_ok
  · cases h; exact rplist_ok _
  · cases h; exact same_ok _
  · cases h; exact fun _ _ _ _ h => (text_ok _ _ _ _ h).ro (roS_le _ _ _ _ _)
  · cases h; exact fun _ _ _ _ h => (parse_ok _ _ _ _ h).ro (roS_le _ _ _ _ _)
  · cases h; rw [hexF_eq]; exact fun _ _ _ _ h => (hex_ok _ _ _ _ h).ro (roS_le _ _ _ _ _)
  · cases h; exact fun _ _ _ _ h => (ph_ok _ _ _ _ h).ro (roS_le _ _ _ _ _)
  · cases h; exact fun _ _ _ _ h => (awake5_ok _ _ _ _ h).ro (roS_le _ _ _ _ _)
  · cases h
def bkA (zs : List Int) (x : Int) (s : ByteArray) (i : Int) : List AV := [.lst 1 (zs.map gi) .no, .v (.int .u64 x), .v (.string s), .dead, .dead, .v (.int .i64 i)]
theorem t_DecLists (f : AV → ByteArray) (X : ByteArray → List Int) (E : ByteArray → Int) (S : AV → AV → Bool) (T : Int → ByteArray) (P : ByteArray → Int) (Q : ByteArray → Int) (hx : Int → ByteArray) (pX' pE' : ByteArray → Int) (m : Int) (tS tR : TypeId) (pS pR : Value) (zs : List Int) (s : ByteArray) (Φ : AV → Prop) : callK (roS m tS pS tR pR) (fun _ => false) (prL f X E S T P Q hx pX' pE') 5 4 [.lst 1 (zs.map gi) .no, .v (.string s)] (hp [] []) (fun r h => some (h.cd ∧ Φ r)) =
    (bif (decide ((40 : Int) < ((List.length (List.map gi zs)) : Int))) then (some (True ∧ (Φ (AV.v (Value.bool true))))) else (bif (decide ((400 : Int) < ((ByteArray.size s) : Int))) then (some (True ∧ (Φ (AV.v (Value.bool true))))) else (bif ((ByteArray.toList (f (AV.lst (1 : Nat) (List.map gi zs) Tip.no))) == (ByteArray.toList (f (AV.lst (1 : Nat) (List.map gi zs) Tip.no)))) then (bif (S (AV.lst (1 : Nat) (List.map gi (X s)) Tip.no) (AV.lst (1 : Nat) (List.map gi (X s)) Tip.no)) then (bif ((E s) == (E s)) then (some ((cdb (cdb (cdb (cdb (cdb True (plistOk [(AV.v (Value.string s))])) (plistOk [(AV.v (Value.string s))])) (listOk [(AV.lst (1 : Nat) (List.map gi zs) Tip.no)])) (listOk [(AV.lst (1 : Nat) (List.map gi zs) Tip.no)])) (sameOk [(AV.lst (1 : Nat) (List.map gi (X s)) Tip.no), (AV.lst (1 : Nat) (List.map gi (X s)) Tip.no)])) ∧ (Φ (AV.v (Value.bool true))))) else (some ((cdb (cdb (cdb (cdb (cdb True (plistOk [(AV.v (Value.string s))])) (plistOk [(AV.v (Value.string s))])) (listOk [(AV.lst (1 : Nat) (List.map gi zs) Tip.no)])) (listOk [(AV.lst (1 : Nat) (List.map gi zs) Tip.no)])) (sameOk [(AV.lst (1 : Nat) (List.map gi (X s)) Tip.no), (AV.lst (1 : Nat) (List.map gi (X s)) Tip.no)])) ∧ (Φ (AV.v (Value.bool false)))))) else (some ((cdb (cdb (cdb (cdb (cdb True (plistOk [(AV.v (Value.string s))])) (plistOk [(AV.v (Value.string s))])) (listOk [(AV.lst (1 : Nat) (List.map gi zs) Tip.no)])) (listOk [(AV.lst (1 : Nat) (List.map gi zs) Tip.no)])) (sameOk [(AV.lst (1 : Nat) (List.map gi (X s)) Tip.no), (AV.lst (1 : Nat) (List.map gi (X s)) Tip.no)])) ∧ (Φ (AV.v (Value.bool false)))))) else (some ((cdb (cdb (cdb (cdb True (plistOk [(AV.v (Value.string s))])) (plistOk [(AV.v (Value.string s))])) (listOk [(AV.lst (1 : Nat) (List.map gi zs) Tip.no)])) (listOk [(AV.lst (1 : Nat) (List.map gi zs) Tip.no)])) ∧ (Φ (AV.v (Value.bool false)))))))) := by kernel_rfl
end Go.Proofs.YtjnonfcemicmoaaDoor.AE
namespace Go.Proofs.YtjnonfcemicmoaaDoor.AE
open Go.RowKit
theorem pts_join (b : UInt8) : ∀ xs : List (List UInt8), xs ≠ [] → (∀ x ∈ xs, b ∉ x) → pts b ((xs.intersperse [b]).flatten) = xs
  | [], h, _ => absurd rfl h
  | [x], _, h => by
    have := h x (List.mem_cons_self ..)
    simp [pts_no this]
  | x :: y :: l, _, h => by
    have e : ((x :: y :: l).intersperse [b]).flatten = x ++ b :: ((y :: l).intersperse [b]).flatten := by
      rw [show (x :: y :: l).intersperse [b] = x :: [b] :: (y :: l).intersperse [b] from rfl]; simp
    rw [e, pts_at _ (h x (List.mem_cons_self ..)), pts_join b (y :: l) (by simp) (fun z hz => h z (List.mem_cons_of_mem _ hz))]
theorem pts_ne (b : UInt8) (l : List UInt8) : pts b l ≠ [] := by
  cases l with
  | nil => simp [pts]
  | cons c l =>
    rw [pts_cons]
    split
    · simp
    · cases pts b l <;> simp [consH]
theorem join_pts (b : UInt8) : ∀ l : List UInt8, ((pts b l).intersperse [b]).flatten = l
  | [] => rfl
  | c :: l => by
    have ih := join_pts b l
    rw [pts_cons]
    split
    · rename_i e
      subst e
      cases hp : pts c l with
      | nil => exact absurd hp (pts_ne c l)
      | cons x r =>
        rw [hp] at ih
        rw [show ([] :: x :: r).intersperse [c] = [] :: [c] :: (x :: r).intersperse [c] from rfl]
        simp [ih]
    · cases hp : pts b l with
      | nil => exact absurd hp (pts_ne b l)
      | cons x r =>
        rw [hp] at ih
        cases r with
        | nil => simp [consH] at ih ⊢; exact ih
        | cons y r =>
          rw [show (x :: y :: r).intersperse [b] = x :: [b] :: (y :: r).intersperse [b] from rfl] at ih
          rw [show (consH c (x :: y :: r)).intersperse [b] = (c :: x) :: [b] :: (y :: r).intersperse [b] from rfl]
          simp only [List.flatten_cons, List.cons_append] at ih ⊢
          rw [ih]
theorem ba_map (l : List ByteArray) : (l.map (·.data.toList)).map ba = l := by
  rw [List.map_map]
  have : (ba ∘ fun x : ByteArray => x.data.toList) = id := by funext x; exact ba_of x
  rw [this, List.map_id]
theorem map_ba (l : List (List UInt8)) : (l.map ba).map (·.data.toList) = l := by
  rw [List.map_map]
  have : ((fun x : ByteArray => x.data.toList) ∘ ba) = id := by funext x; show (List.toArray x).toList = x; simp
  rw [this, List.map_id]
theorem parts_join (b : UInt8) (l : List ByteArray) (hne : l ≠ []) (h : ∀ x ∈ l, b ∉ x.data.toList) : parts b (joinB l ⟨#[b]⟩) = l := by
  unfold parts
  have e : (joinB l ⟨#[b]⟩).data.toList = ((l.map (·.data.toList)).intersperse [b]).flatten := by show (List.toArray _).toList = _; rfl
  rw [e, pts_join b _ (by simpa using hne) (fun x hx => by
    obtain ⟨y, hy, rfl⟩ := List.mem_map.1 hx
    exact h y hy), ba_map]
theorem join_parts (b : UInt8) (s : ByteArray) : joinB (parts b s) ⟨#[b]⟩ = s := by
  apply ba_ext
  show (List.toArray (((parts b s).map (·.data.toList)).intersperse [b]).flatten).toList = _
  unfold parts
  rw [map_ba, join_pts]
theorem parts_ne (b : UInt8) (s : ByteArray) : parts b s ≠ [] := by
  unfold parts
  simpa using pts_ne b s.data.toList
theorem tx_data (n : Int) : (tx n).data.toList = Lib.itoa n := by show (List.toArray _).toList = _; simp
theorem tx_bytes (n : Int) : ∀ c ∈ (tx n).data.toList, c = 45 ∨ (48 ≤ c.toNat ∧ c.toNat ≤ 57) := by
  rw [tx_data]
  unfold Lib.itoa
  split
  · intro c hc
    rcases List.mem_cons.1 hc with hc | hc
    · exact .inl hc
    · exact .inr (De.digits_rng _ c hc)
  · intro c hc
    exact .inr (De.digits_rng _ c hc)
theorem tx_no (n : Int) (b : UInt8) (hb : b.toNat < 45) : b ∉ (tx n).data.toList := fun h => by
  rcases tx_bytes n b h with e | e
  · subst e; exact absurd hb (by decide)
  · omega
theorem tx_back (n : Int) (hn : inR n) : dpX (tx n) = n ∧ dpY (tx n) = 0 := dp_good hn (tx_data n)
theorem prs_tx : ∀ zs : List Int, (∀ z ∈ zs, inR z) → prs (zs.map tx) = some zs
  | [], _ => rfl
  | z :: l, h => by
    obtain ⟨h1, h2⟩ := tx_back z (h z (List.mem_cons_self ..))
    rw [List.map_cons, prs_cons, if_pos h2, prs_tx l fun y hy => h y (List.mem_cons_of_mem _ hy), h1]
theorem dp_told {p : ByteArray} (h : dpY p = 0) : tx (dpX p) = p ∧ inR (dpX p) := by
  unfold dpY at h
  unfold dpX
  split
  · rename_i v hv
    rw [hv] at h
    simp only at h
    split at h
    · rename_i e
      rw [if_pos e]
      exact ⟨ba_ext (by rw [tx_data]; exact e), Lib.atoiAll_bounds hv⟩
    · cases h
  · rename_i hv
    split at h
    · rename_i v hv2; exact absurd hv2 (hv v)
    · cases h
theorem prs_told : ∀ {ps : List ByteArray} {l : List Int}, prs ps = some l → ps = l.map tx ∧ ∀ z ∈ l, inR z
  | [], l, h => by cases h; exact ⟨rfl, by simp⟩
  | p :: r, l, h => by
    rw [prs_cons] at h
    split at h
    · rename_i hp
      split at h
      · rename_i q hq
        cases h
        obtain ⟨h1, h2⟩ := prs_told hq
        obtain ⟨h3, h4⟩ := dp_told hp
        refine ⟨by rw [List.map_cons, h3, ← h1], fun z hz => ?_⟩
        rcases List.mem_cons.1 hz with hz | hz
        · subst hz; exact h4
        · exact h2 z hz
      · cases h
    · cases h
theorem list_back (zs : List Int) (h : ∀ z ∈ zs, inR z) : plX (listS zs) = zs ∧ plE (listS zs) = 0 := by
  have key : plS (listS zs) = some zs := by
    unfold listS plS
    by_cases hz : zs = []
    · rw [if_pos hz, if_pos rfl, hz]
    · rw [if_neg hz]
      have hj : parts 44 (joinB (zs.map tx) comma) = zs.map tx := parts_join 44 _ (by simpa using hz) (fun x hx => by
        obtain ⟨z, _, rfl⟩ := List.mem_map.1 hx
        exact tx_no z 44 (by decide))
      have hd : ¬ joinB (zs.map tx) comma = dash := fun e => by
        rw [e] at hj
        have hp : parts 44 dash = [dash] := by decide +kernel
        rw [hp] at hj
        cases zs with
        | nil => exact hz rfl
        | cons z l =>
          rw [List.map_cons] at hj
          have h1 : tx z = dash := (List.cons.inj hj).1.symm
          have h2 := (tx_back z (h z (List.mem_cons_self ..))).2
          rw [h1] at h2
          have h3 : dpY dash = 2 := by decide +kernel
          rw [h3] at h2
          cases h2
      rw [if_neg hd, hj, prs_tx zs h]
  unfold plX plE
  rw [key]
  exact ⟨rfl, rfl⟩
theorem list_told {s : ByteArray} (h : plE s = 0) : listS (plX s) = s ∧ (∀ z ∈ plX s, inR z) := by
  unfold plE at h
  unfold plX
  split at h
  · rename_i l hl
    unfold plS at hl
    split at hl
    · rename_i hd
      cases hl
      exact ⟨by rw [hd]; rfl, by simp⟩
    · obtain ⟨h1, h2⟩ := prs_told hl
      refine ⟨?_, h2⟩
      have hne : l ≠ [] := by rintro rfl; exact parts_ne 44 s h1
      unfold listS
      rw [if_neg hne, ← h1]
      exact join_parts 44 s
  · cases h
theorem plX_len (s : ByteArray) : (plX s).length ≤ s.size + 1 := by
  unfold plX
  split
  · rename_i l hl
    unfold plS at hl
    split at hl
    · cases hl; exact Nat.zero_le _
    · obtain ⟨h1, _⟩ := prs_told hl
      have := parts_many 44 s
      rw [h1, List.length_map] at this
      exact this
  · exact Nat.zero_le _
theorem hd_ok : ∀ i, i < 16 → hok ((tb16.getD i 0).toNat : Int) = true ∧ hv ((tb16.getD i 0).toNat : Int) = (i : Int) := by decide +kernel
theorem pf_low : ∀ (k : Nat) (m n : Nat), pf (m : Nat) (lowD k n) = some ((m * 16 ^ k + n % 16 ^ k : Nat) : Int)
  | 0, m, n => by simp [lowD, pf, Nat.mod_one]
  | k + 1, m, n => by
    have hlt : n / 16 ^ k % 16 < 16 := Nat.mod_lt _ (by decide)
    obtain ⟨h1, h2⟩ := hd_ok _ hlt
    have ih := pf_low k (16 * m + n / 16 ^ k % 16) n
    rw [lowD, pf, if_pos h1, h2]
    have e : 16 * (m : Int) + ((n / 16 ^ k % 16 : Nat) : Int) = ((16 * m + n / 16 ^ k % 16 : Nat) : Int) := by omega
    rw [e, ih]
    congr 2
    have hm : n % 16 ^ (k + 1) = 16 ^ k * (n / 16 ^ k % 16) + n % 16 ^ k := by
      rw [Nat.pow_succ, Nat.mod_mul]; omega
    rw [hm, Nat.pow_succ, Nat.add_mul, Nat.mul_comm (n / 16 ^ k % 16), ← Nat.mul_assoc, Nat.mul_comm (m * 16 ^ k) 16, ← Nat.mul_assoc]
    omega
theorem hex_back (x : Nat) (hx : x < 18446744073709551616) : pX (hexS x) = x ∧ pE (hexS x) = 0 := by
  have hs : (hexS (x : Int)).size = 16 := by show (List.toArray _).size = _; rw [List.size_toArray, lowD_len]
  have hd : (hexS (x : Int)).data.toList = lowD 16 x := by show (List.toArray _).toList = _; simp
  have hp := pf_low 16 0 x
  have e16 : (16 : Nat) ^ 16 = 18446744073709551616 := by decide
  rw [Nat.zero_mul, Nat.zero_add, e16, Nat.mod_eq_of_lt hx] at hp
  exact pX_yes hs (by rw [hd]; exact hp)
end Go.Proofs.YtjnonfcemicmoaaDoor.AE
namespace Go.Proofs.YtjnonfcemicmoaaDoor.AE
open Go.RowKit
def bA (zs : List Int) (x : Int) (s : ByteArray) (i : Int) : List AV := [.lst 1 (zs.map gi) .no, .v (.int .u64 x), .v (.string s), .dead, .dead, .dead, .dead, .v (.int .i64 i)] ++ List.replicate 88 .dead
theorem bk_pre (f : AV → ByteArray) (X : ByteArray → List Int) (E : ByteArray → Int) (S : AV → AV → Bool) (T : Int → ByteArray) (P : ByteArray → Int) (Q : ByteArray → Int) (hx : Int → ByteArray) (pX' pE' : ByteArray → Int) (m : Int) (tS tR : TypeId) (pS pR : Value) (zs : List Int) (x : Int) (s : ByteArray) (R : Exit → List AV → AH → Prop) : codeL (roS m tS pS tR pR) (fun _ => false) (prL f X E S T P Q hx pX' pE') 5 ((flatten (bodyOf 5)).take 4) ([.lst 1 (zs.map gi) .no, .v (.int .u64 x), .v (.string s)] ++ List.replicate 93 (.v undef)) (hp [] []) (kp [0, 1, 2, 6, 7] R) =
    (bif (decide ((40 : Int) < ((List.length (List.map gi zs)) : Int))) then (some (True ∧ (R Exit.ret [(AV.lst (1 : Nat) (List.map gi zs) Tip.no), (AV.v (Value.int IntKind.u64 x)), (AV.v (Value.string s)), AV.dead, AV.dead, AV.dead, (AV.v (Value.bool true)), (AV.v (Value.tuple (Array.mk (@List.nil Go.Value)))), AV.dead, AV.dead, AV.dead, AV.dead, AV.dead, AV.dead, AV.dead, AV.dead, AV.dead, AV.dead, AV.dead, AV.dead, AV.dead, AV.dead, AV.dead, AV.dead, AV.dead, AV.dead, AV.dead, AV.dead, AV.dead, AV.dead, AV.dead, AV.dead, AV.dead, AV.dead, AV.dead, AV.dead, AV.dead, AV.dead, AV.dead, AV.dead, AV.dead, AV.dead, AV.dead, AV.dead, AV.dead, AV.dead, AV.dead, AV.dead, AV.dead, AV.dead, AV.dead, AV.dead, AV.dead, AV.dead, AV.dead, AV.dead, AV.dead, AV.dead, AV.dead, AV.dead, AV.dead, AV.dead, AV.dead, AV.dead, AV.dead, AV.dead, AV.dead, AV.dead, AV.dead, AV.dead, AV.dead, AV.dead, AV.dead, AV.dead, AV.dead, AV.dead, AV.dead, AV.dead, AV.dead, AV.dead, AV.dead, AV.dead, AV.dead, AV.dead, AV.dead, AV.dead, AV.dead, AV.dead, AV.dead, AV.dead, AV.dead, AV.dead, AV.dead, AV.dead, AV.dead, AV.dead] (AH.mk (@List.nil (Prod Go.TypeId (List AV))) (@List.nil Nat) (0 : Nat) (0 : Nat) true (@List.nil (Prod Nat Bool)) True)))) else (bif (decide ((400 : Int) < ((ByteArray.size s) : Int))) then (some (True ∧ (R Exit.ret [(AV.lst (1 : Nat) (List.map gi zs) Tip.no), (AV.v (Value.int IntKind.u64 x)), (AV.v (Value.string s)), AV.dead, AV.dead, AV.dead, (AV.v (Value.bool true)), (AV.v (Value.tuple (Array.mk (@List.nil Go.Value)))), AV.dead, AV.dead, AV.dead, AV.dead, AV.dead, AV.dead, AV.dead, AV.dead, AV.dead, AV.dead, AV.dead, AV.dead, AV.dead, AV.dead, AV.dead, AV.dead, AV.dead, AV.dead, AV.dead, AV.dead, AV.dead, AV.dead, AV.dead, AV.dead, AV.dead, AV.dead, AV.dead, AV.dead, AV.dead, AV.dead, AV.dead, AV.dead, AV.dead, AV.dead, AV.dead, AV.dead, AV.dead, AV.dead, AV.dead, AV.dead, AV.dead, AV.dead, AV.dead, AV.dead, AV.dead, AV.dead, AV.dead, AV.dead, AV.dead, AV.dead, AV.dead, AV.dead, AV.dead, AV.dead, AV.dead, AV.dead, AV.dead, AV.dead, AV.dead, AV.dead, AV.dead, AV.dead, AV.dead, AV.dead, AV.dead, AV.dead, AV.dead, AV.dead, AV.dead, AV.dead, AV.dead, AV.dead, AV.dead, AV.dead, AV.dead, AV.dead, AV.dead, AV.dead, AV.dead, AV.dead, AV.dead, AV.dead, AV.dead, AV.dead, AV.dead, AV.dead, AV.dead, AV.dead] (AH.mk (@List.nil (Prod Go.TypeId (List AV))) (@List.nil Nat) (0 : Nat) (0 : Nat) true (@List.nil (Prod Nat Bool)) True)))) else (some (True ∧ (R Exit.normal [(AV.lst (1 : Nat) (List.map gi zs) Tip.no), (AV.v (Value.int IntKind.u64 x)), (AV.v (Value.string s)), AV.dead, AV.dead, AV.dead, (AV.v (Value.bool false)), (AV.v (Value.int IntKind.i64 (0 : Int))), AV.dead, AV.dead, AV.dead, AV.dead, AV.dead, AV.dead, AV.dead, AV.dead, AV.dead, AV.dead, AV.dead, AV.dead, AV.dead, AV.dead, AV.dead, AV.dead, AV.dead, AV.dead, AV.dead, AV.dead, AV.dead, AV.dead, AV.dead, AV.dead, AV.dead, AV.dead, AV.dead, AV.dead, AV.dead, AV.dead, AV.dead, AV.dead, AV.dead, AV.dead, AV.dead, AV.dead, AV.dead, AV.dead, AV.dead, AV.dead, AV.dead, AV.dead, AV.dead, AV.dead, AV.dead, AV.dead, AV.dead, AV.dead, AV.dead, AV.dead, AV.dead, AV.dead, AV.dead, AV.dead, AV.dead, AV.dead, AV.dead, AV.dead, AV.dead, AV.dead, AV.dead, AV.dead, AV.dead, AV.dead, AV.dead, AV.dead, AV.dead, AV.dead, AV.dead, AV.dead, AV.dead, AV.dead, AV.dead, AV.dead, AV.dead, AV.dead, AV.dead, AV.dead, AV.dead, AV.dead, AV.dead, AV.dead, AV.dead, AV.dead, AV.dead, AV.dead, AV.dead, AV.dead] (AH.mk (@List.nil (Prod Go.TypeId (List AV))) (@List.nil Nat) (0 : Nat) (0 : Nat) true (@List.nil (Prod Nat Bool)) True)))))) := by kernel_rfl
theorem bk_in (f : AV → ByteArray) (X : ByteArray → List Int) (E : ByteArray → Int) (S : AV → AV → Bool) (T : Int → ByteArray) (P : ByteArray → Int) (Q : ByteArray → Int) (hx : Int → ByteArray) (pX' pE' : ByteArray → Int) (m : Int) (tS tR : TypeId) (pS pR : Value) (zs : List Int) (x : Int) (s : ByteArray) (i : Int) (R : Exit → List AV → AH → Prop) : code (roS m tS pS tR pR) (fun _ => false) (prL f X E S T P Q hx pX' pE') 5 (sub (bodyOf 5) [1, 1, 0, 1, 0, 0]) (bA zs x s i) (hp [] []) (kp [0, 1, 2, 6, 7] R) =
    (bif (decide (i < ((List.length (List.map gi zs)) : Int))) then (bif ((P (T (exInt (List.getD (List.map gi zs) (Int.toNat i) AV.dead)))) != (exInt (List.getD (List.map gi zs) (Int.toNat i) AV.dead))) then (some ((cds (cdb (cdb (cds True (elemB Tryd.prog (3 : Nat) (List.map gi zs) i) (((0 : Int) ≤ i) ∧ (((List.map gi zs)[(Int.toNat i)]?) = (some (AV.v (Value.int IntKind.i64 (exInt (List.getD (List.map gi zs) (Int.toNat i) AV.dead)))))))) (decide (((-(9223372036854775808 : Int)) ≤ (exInt (List.getD (List.map gi zs) (Int.toNat i) AV.dead))) ∧ ((exInt (List.getD (List.map gi zs) (Int.toNat i) AV.dead)) ≤ (9223372036854775807 : Int))))) (decide ((ByteArray.size (T (exInt (List.getD (List.map gi zs) (Int.toNat i) AV.dead)))) ≤ (100000 : Nat)))) (elemB Tryd.prog (3 : Nat) (List.map gi zs) i) (((0 : Int) ≤ i) ∧ (((List.map gi zs)[(Int.toNat i)]?) = (some (AV.v (Value.int IntKind.i64 (exInt (List.getD (List.map gi zs) (Int.toNat i) AV.dead)))))))) ∧ (R Exit.ret [(AV.lst (1 : Nat) (List.map gi zs) Tip.no), (AV.v (Value.int IntKind.u64 x)), (AV.v (Value.string s)), AV.dead, AV.dead, AV.dead, (AV.v (Value.bool false)), (AV.v (Value.int IntKind.i64 i)), AV.dead, AV.dead, AV.dead, AV.dead, AV.dead, AV.dead, AV.dead, AV.dead, AV.dead, AV.dead, AV.dead, AV.dead, AV.dead, AV.dead, AV.dead, AV.dead, AV.dead, AV.dead, AV.dead, AV.dead, AV.dead, AV.dead, AV.dead, AV.dead, AV.dead, AV.dead, AV.dead, AV.dead, AV.dead, AV.dead, AV.dead, AV.dead, AV.dead, AV.dead, AV.dead, AV.dead, AV.dead, AV.dead, AV.dead, AV.dead, AV.dead, AV.dead, AV.dead, AV.dead, AV.dead, AV.dead, AV.dead, AV.dead, AV.dead, AV.dead, AV.dead, AV.dead, AV.dead, AV.dead, AV.dead, AV.dead, AV.dead, AV.dead, AV.dead, AV.dead, AV.dead, AV.dead, AV.dead, AV.dead, AV.dead, AV.dead, AV.dead, AV.dead, AV.dead, AV.dead, AV.dead, AV.dead, AV.dead, AV.dead, AV.dead, AV.dead, AV.dead, AV.dead, AV.dead, AV.dead, AV.dead, AV.dead, AV.dead, AV.dead, AV.dead, AV.dead, AV.dead, AV.dead] (AH.mk (@List.nil (Prod Go.TypeId (List AV))) (@List.nil Nat) (0 : Nat) (0 : Nat) true (@List.nil (Prod Nat Bool)) True)))) else (bif ((Q (T (exInt (List.getD (List.map gi zs) (Int.toNat i) AV.dead)))) != (0 : Int)) then (some ((cds (cdb (cdb (cds True (elemB Tryd.prog (3 : Nat) (List.map gi zs) i) (((0 : Int) ≤ i) ∧ (((List.map gi zs)[(Int.toNat i)]?) = (some (AV.v (Value.int IntKind.i64 (exInt (List.getD (List.map gi zs) (Int.toNat i) AV.dead)))))))) (decide (((-(9223372036854775808 : Int)) ≤ (exInt (List.getD (List.map gi zs) (Int.toNat i) AV.dead))) ∧ ((exInt (List.getD (List.map gi zs) (Int.toNat i) AV.dead)) ≤ (9223372036854775807 : Int))))) (decide ((ByteArray.size (T (exInt (List.getD (List.map gi zs) (Int.toNat i) AV.dead)))) ≤ (100000 : Nat)))) (elemB Tryd.prog (3 : Nat) (List.map gi zs) i) (((0 : Int) ≤ i) ∧ (((List.map gi zs)[(Int.toNat i)]?) = (some (AV.v (Value.int IntKind.i64 (exInt (List.getD (List.map gi zs) (Int.toNat i) AV.dead)))))))) ∧ (R Exit.ret [(AV.lst (1 : Nat) (List.map gi zs) Tip.no), (AV.v (Value.int IntKind.u64 x)), (AV.v (Value.string s)), AV.dead, AV.dead, AV.dead, (AV.v (Value.bool false)), (AV.v (Value.int IntKind.i64 i)), AV.dead, AV.dead, AV.dead, AV.dead, AV.dead, AV.dead, AV.dead, AV.dead, AV.dead, AV.dead, AV.dead, AV.dead, AV.dead, AV.dead, AV.dead, AV.dead, AV.dead, AV.dead, AV.dead, AV.dead, AV.dead, AV.dead, AV.dead, AV.dead, AV.dead, AV.dead, AV.dead, AV.dead, AV.dead, AV.dead, AV.dead, AV.dead, AV.dead, AV.dead, AV.dead, AV.dead, AV.dead, AV.dead, AV.dead, AV.dead, AV.dead, AV.dead, AV.dead, AV.dead, AV.dead, AV.dead, AV.dead, AV.dead, AV.dead, AV.dead, AV.dead, AV.dead, AV.dead, AV.dead, AV.dead, AV.dead, AV.dead, AV.dead, AV.dead, AV.dead, AV.dead, AV.dead, AV.dead, AV.dead, AV.dead, AV.dead, AV.dead, AV.dead, AV.dead, AV.dead, AV.dead, AV.dead, AV.dead, AV.dead, AV.dead, AV.dead, AV.dead, AV.dead, AV.dead, AV.dead, AV.dead, AV.dead, AV.dead, AV.dead, AV.dead, AV.dead, AV.dead, AV.dead] (AH.mk (@List.nil (Prod Go.TypeId (List AV))) (@List.nil Nat) (0 : Nat) (0 : Nat) true (@List.nil (Prod Nat Bool)) True)))) else (some ((cds (cdb (cdb (cds True (elemB Tryd.prog (3 : Nat) (List.map gi zs) i) (((0 : Int) ≤ i) ∧ (((List.map gi zs)[(Int.toNat i)]?) = (some (AV.v (Value.int IntKind.i64 (exInt (List.getD (List.map gi zs) (Int.toNat i) AV.dead)))))))) (decide (((-(9223372036854775808 : Int)) ≤ (exInt (List.getD (List.map gi zs) (Int.toNat i) AV.dead))) ∧ ((exInt (List.getD (List.map gi zs) (Int.toNat i) AV.dead)) ≤ (9223372036854775807 : Int))))) (decide ((ByteArray.size (T (exInt (List.getD (List.map gi zs) (Int.toNat i) AV.dead)))) ≤ (100000 : Nat)))) (elemB Tryd.prog (3 : Nat) (List.map gi zs) i) (((0 : Int) ≤ i) ∧ (((List.map gi zs)[(Int.toNat i)]?) = (some (AV.v (Value.int IntKind.i64 (exInt (List.getD (List.map gi zs) (Int.toNat i) AV.dead)))))))) ∧ (R Exit.normal [(AV.lst (1 : Nat) (List.map gi zs) Tip.no), (AV.v (Value.int IntKind.u64 x)), (AV.v (Value.string s)), AV.dead, AV.dead, AV.dead, AV.dead, (AV.v (Value.int IntKind.i64 (IntKind.wrap IntKind.i64 (i + (1 : Int))))), AV.dead, AV.dead, AV.dead, AV.dead, AV.dead, AV.dead, AV.dead, AV.dead, AV.dead, AV.dead, AV.dead, AV.dead, AV.dead, AV.dead, AV.dead, AV.dead, AV.dead, AV.dead, AV.dead, AV.dead, AV.dead, AV.dead, AV.dead, AV.dead, AV.dead, AV.dead, AV.dead, AV.dead, AV.dead, AV.dead, AV.dead, AV.dead, AV.dead, AV.dead, AV.dead, AV.dead, AV.dead, AV.dead, AV.dead, AV.dead, AV.dead, AV.dead, AV.dead, AV.dead, AV.dead, AV.dead, AV.dead, AV.dead, AV.dead, AV.dead, AV.dead, AV.dead, AV.dead, AV.dead, AV.dead, AV.dead, AV.dead, AV.dead, AV.dead, AV.dead, AV.dead, AV.dead, AV.dead, AV.dead, AV.dead, AV.dead, AV.dead, AV.dead, AV.dead, AV.dead, AV.dead, AV.dead, AV.dead, AV.dead, AV.dead, AV.dead, AV.dead, AV.dead, AV.dead, AV.dead, AV.dead, AV.dead, AV.dead, AV.dead, AV.dead, AV.dead, AV.dead, AV.dead] (AH.mk (@List.nil (Prod Go.TypeId (List AV))) (@List.nil Nat) (0 : Nat) (0 : Nat) true (@List.nil (Prod Nat Bool)) True)))))) else (some (True ∧ (R (Exit.exit (0 : Nat)) [(AV.lst (1 : Nat) (List.map gi zs) Tip.no), (AV.v (Value.int IntKind.u64 x)), (AV.v (Value.string s)), AV.dead, AV.dead, AV.dead, AV.dead, (AV.v (Value.int IntKind.i64 i)), AV.dead, AV.dead, AV.dead, AV.dead, AV.dead, AV.dead, AV.dead, AV.dead, AV.dead, AV.dead, AV.dead, AV.dead, AV.dead, AV.dead, AV.dead, AV.dead, AV.dead, AV.dead, AV.dead, AV.dead, AV.dead, AV.dead, AV.dead, AV.dead, AV.dead, AV.dead, AV.dead, AV.dead, AV.dead, AV.dead, AV.dead, AV.dead, AV.dead, AV.dead, AV.dead, AV.dead, AV.dead, AV.dead, AV.dead, AV.dead, AV.dead, AV.dead, AV.dead, AV.dead, AV.dead, AV.dead, AV.dead, AV.dead, AV.dead, AV.dead, AV.dead, AV.dead, AV.dead, AV.dead, AV.dead, AV.dead, AV.dead, AV.dead, AV.dead, AV.dead, AV.dead, AV.dead, AV.dead, AV.dead, AV.dead, AV.dead, AV.dead, AV.dead, AV.dead, AV.dead, AV.dead, AV.dead, AV.dead, AV.dead, AV.dead, AV.dead, AV.dead, AV.dead, AV.dead, AV.dead, AV.dead, AV.dead, AV.dead, AV.dead, AV.dead, AV.dead, AV.dead, AV.dead] (AH.mk (@List.nil (Prod Go.TypeId (List AV))) (@List.nil Nat) (0 : Nat) (0 : Nat) true (@List.nil (Prod Nat Bool)) True))))) := by kernel_rfl
theorem bk_post (f : AV → ByteArray) (X : ByteArray → List Int) (E : ByteArray → Int) (S : AV → AV → Bool) (T : Int → ByteArray) (P : ByteArray → Int) (Q : ByteArray → Int) (hx : Int → ByteArray) (pX' pE' : ByteArray → Int) (m : Int) (tS tR : TypeId) (pS pR : Value) (zs : List Int) (x : Int) (s : ByteArray) (i : Int) (R : Exit → List AV → AH → Prop) : codeL (roS m tS pS tR pR) (fun _ => false) (prL f X E S T P Q hx pX' pE') 5 ((flatten (bodyOf 5)).drop 5) (bA zs x s i) (hp [] []) (kp [6] R) =
    (bif (S (AV.lst (1 : Nat) (List.map gi (X (f (AV.lst (1 : Nat) (List.map gi zs) Tip.no)))) Tip.no) (AV.lst (1 : Nat) (List.map gi zs) Tip.no)) then (bif ((E (f (AV.lst (1 : Nat) (List.map gi zs) Tip.no))) == (0 : Int)) then (bif ((pX' (hx x)) == x) then (bif ((pE' (hx x)) == (0 : Int)) then (bif ((E s) != (0 : Int)) then (some ((cdb (cdb (cdb (cdb (cdb True (listOk [(AV.lst (1 : Nat) (List.map gi zs) Tip.no)])) (plistOk [(AV.v (Value.string (f (AV.lst (1 : Nat) (List.map gi zs) Tip.no))))])) (decide (((0 : Int) ≤ x) ∧ (x < (18446744073709551616 : Int))))) (plistOk [(AV.v (Value.string s))])) (sameOk [(AV.lst (1 : Nat) (List.map gi (X (f (AV.lst (1 : Nat) (List.map gi zs) Tip.no)))) Tip.no), (AV.lst (1 : Nat) (List.map gi zs) Tip.no)])) ∧ (R Exit.ret [AV.dead, AV.dead, AV.dead, AV.dead, AV.dead, AV.dead, (AV.v (Value.bool true)), AV.dead, AV.dead, AV.dead, AV.dead, AV.dead, AV.dead, AV.dead, AV.dead, AV.dead, AV.dead, AV.dead, AV.dead, AV.dead, AV.dead, AV.dead, AV.dead, AV.dead, AV.dead, AV.dead, AV.dead, AV.dead, AV.dead, AV.dead, AV.dead, AV.dead, AV.dead, AV.dead, AV.dead, AV.dead, AV.dead, AV.dead, AV.dead, AV.dead, AV.dead, AV.dead, AV.dead, AV.dead, AV.dead, AV.dead, AV.dead, AV.dead, AV.dead, AV.dead, AV.dead, AV.dead, AV.dead, AV.dead, AV.dead, AV.dead, AV.dead, AV.dead, AV.dead, AV.dead, AV.dead, AV.dead, AV.dead, AV.dead, AV.dead, AV.dead, AV.dead, AV.dead, AV.dead, AV.dead, AV.dead, AV.dead, AV.dead, AV.dead, AV.dead, AV.dead, AV.dead, AV.dead, AV.dead, AV.dead, AV.dead, AV.dead, AV.dead, AV.dead, AV.dead, AV.dead, AV.dead, AV.dead, AV.dead, AV.dead, AV.dead, AV.dead, AV.dead, AV.dead, AV.dead, AV.dead] (AH.mk (@List.nil (Prod Go.TypeId (List AV))) (@List.nil Nat) (0 : Nat) (0 : Nat) true (@List.nil (Prod Nat Bool)) True)))) else (bif ((ByteArray.toList (f (AV.lst (1 : Nat) (List.map gi (X s)) Tip.no))) == (ByteArray.toList s)) then (some ((cdb (cdb (cdb (cdb (cdb (cdb True (listOk [(AV.lst (1 : Nat) (List.map gi zs) Tip.no)])) (plistOk [(AV.v (Value.string (f (AV.lst (1 : Nat) (List.map gi zs) Tip.no))))])) (decide (((0 : Int) ≤ x) ∧ (x < (18446744073709551616 : Int))))) (plistOk [(AV.v (Value.string s))])) (sameOk [(AV.lst (1 : Nat) (List.map gi (X (f (AV.lst (1 : Nat) (List.map gi zs) Tip.no)))) Tip.no), (AV.lst (1 : Nat) (List.map gi zs) Tip.no)])) (listOk [(AV.lst (1 : Nat) (List.map gi (X s)) Tip.no)])) ∧ (R Exit.ret [AV.dead, AV.dead, AV.dead, AV.dead, AV.dead, AV.dead, (AV.v (Value.bool true)), AV.dead, AV.dead, AV.dead, AV.dead, AV.dead, AV.dead, AV.dead, AV.dead, AV.dead, AV.dead, AV.dead, AV.dead, AV.dead, AV.dead, AV.dead, AV.dead, AV.dead, AV.dead, AV.dead, AV.dead, AV.dead, AV.dead, AV.dead, AV.dead, AV.dead, AV.dead, AV.dead, AV.dead, AV.dead, AV.dead, AV.dead, AV.dead, AV.dead, AV.dead, AV.dead, AV.dead, AV.dead, AV.dead, AV.dead, AV.dead, AV.dead, AV.dead, AV.dead, AV.dead, AV.dead, AV.dead, AV.dead, AV.dead, AV.dead, AV.dead, AV.dead, AV.dead, AV.dead, AV.dead, AV.dead, AV.dead, AV.dead, AV.dead, AV.dead, AV.dead, AV.dead, AV.dead, AV.dead, AV.dead, AV.dead, AV.dead, AV.dead, AV.dead, AV.dead, AV.dead, AV.dead, AV.dead, AV.dead, AV.dead, AV.dead, AV.dead, AV.dead, AV.dead, AV.dead, AV.dead, AV.dead, AV.dead, AV.dead, AV.dead, AV.dead, AV.dead, AV.dead, AV.dead, AV.dead] (AH.mk (@List.nil (Prod Go.TypeId (List AV))) (@List.nil Nat) (0 : Nat) (0 : Nat) true (@List.nil (Prod Nat Bool)) True)))) else (some ((cdb (cdb (cdb (cdb (cdb (cdb True (listOk [(AV.lst (1 : Nat) (List.map gi zs) Tip.no)])) (plistOk [(AV.v (Value.string (f (AV.lst (1 : Nat) (List.map gi zs) Tip.no))))])) (decide (((0 : Int) ≤ x) ∧ (x < (18446744073709551616 : Int))))) (plistOk [(AV.v (Value.string s))])) (sameOk [(AV.lst (1 : Nat) (List.map gi (X (f (AV.lst (1 : Nat) (List.map gi zs) Tip.no)))) Tip.no), (AV.lst (1 : Nat) (List.map gi zs) Tip.no)])) (listOk [(AV.lst (1 : Nat) (List.map gi (X s)) Tip.no)])) ∧ (R Exit.ret [AV.dead, AV.dead, AV.dead, AV.dead, AV.dead, AV.dead, (AV.v (Value.bool false)), AV.dead, AV.dead, AV.dead, AV.dead, AV.dead, AV.dead, AV.dead, AV.dead, AV.dead, AV.dead, AV.dead, AV.dead, AV.dead, AV.dead, AV.dead, AV.dead, AV.dead, AV.dead, AV.dead, AV.dead, AV.dead, AV.dead, AV.dead, AV.dead, AV.dead, AV.dead, AV.dead, AV.dead, AV.dead, AV.dead, AV.dead, AV.dead, AV.dead, AV.dead, AV.dead, AV.dead, AV.dead, AV.dead, AV.dead, AV.dead, AV.dead, AV.dead, AV.dead, AV.dead, AV.dead, AV.dead, AV.dead, AV.dead, AV.dead, AV.dead, AV.dead, AV.dead, AV.dead, AV.dead, AV.dead, AV.dead, AV.dead, AV.dead, AV.dead, AV.dead, AV.dead, AV.dead, AV.dead, AV.dead, AV.dead, AV.dead, AV.dead, AV.dead, AV.dead, AV.dead, AV.dead, AV.dead, AV.dead, AV.dead, AV.dead, AV.dead, AV.dead, AV.dead, AV.dead, AV.dead, AV.dead, AV.dead, AV.dead, AV.dead, AV.dead, AV.dead, AV.dead, AV.dead, AV.dead] (AH.mk (@List.nil (Prod Go.TypeId (List AV))) (@List.nil Nat) (0 : Nat) (0 : Nat) true (@List.nil (Prod Nat Bool)) True)))))) else (some ((cdb (cdb (cdb (cdb (cdb True (listOk [(AV.lst (1 : Nat) (List.map gi zs) Tip.no)])) (plistOk [(AV.v (Value.string (f (AV.lst (1 : Nat) (List.map gi zs) Tip.no))))])) (decide (((0 : Int) ≤ x) ∧ (x < (18446744073709551616 : Int))))) (plistOk [(AV.v (Value.string s))])) (sameOk [(AV.lst (1 : Nat) (List.map gi (X (f (AV.lst (1 : Nat) (List.map gi zs) Tip.no)))) Tip.no), (AV.lst (1 : Nat) (List.map gi zs) Tip.no)])) ∧ (R Exit.ret [AV.dead, AV.dead, AV.dead, AV.dead, AV.dead, AV.dead, (AV.v (Value.bool false)), AV.dead, AV.dead, AV.dead, AV.dead, AV.dead, AV.dead, AV.dead, AV.dead, AV.dead, AV.dead, AV.dead, AV.dead, AV.dead, AV.dead, AV.dead, AV.dead, AV.dead, AV.dead, AV.dead, AV.dead, AV.dead, AV.dead, AV.dead, AV.dead, AV.dead, AV.dead, AV.dead, AV.dead, AV.dead, AV.dead, AV.dead, AV.dead, AV.dead, AV.dead, AV.dead, AV.dead, AV.dead, AV.dead, AV.dead, AV.dead, AV.dead, AV.dead, AV.dead, AV.dead, AV.dead, AV.dead, AV.dead, AV.dead, AV.dead, AV.dead, AV.dead, AV.dead, AV.dead, AV.dead, AV.dead, AV.dead, AV.dead, AV.dead, AV.dead, AV.dead, AV.dead, AV.dead, AV.dead, AV.dead, AV.dead, AV.dead, AV.dead, AV.dead, AV.dead, AV.dead, AV.dead, AV.dead, AV.dead, AV.dead, AV.dead, AV.dead, AV.dead, AV.dead, AV.dead, AV.dead, AV.dead, AV.dead, AV.dead, AV.dead, AV.dead, AV.dead, AV.dead, AV.dead, AV.dead] (AH.mk (@List.nil (Prod Go.TypeId (List AV))) (@List.nil Nat) (0 : Nat) (0 : Nat) true (@List.nil (Prod Nat Bool)) True))))) else (some ((cdb (cdb (cdb (cdb (cdb True (listOk [(AV.lst (1 : Nat) (List.map gi zs) Tip.no)])) (plistOk [(AV.v (Value.string (f (AV.lst (1 : Nat) (List.map gi zs) Tip.no))))])) (decide (((0 : Int) ≤ x) ∧ (x < (18446744073709551616 : Int))))) (plistOk [(AV.v (Value.string s))])) (sameOk [(AV.lst (1 : Nat) (List.map gi (X (f (AV.lst (1 : Nat) (List.map gi zs) Tip.no)))) Tip.no), (AV.lst (1 : Nat) (List.map gi zs) Tip.no)])) ∧ (R Exit.ret [AV.dead, AV.dead, AV.dead, AV.dead, AV.dead, AV.dead, (AV.v (Value.bool false)), AV.dead, AV.dead, AV.dead, AV.dead, AV.dead, AV.dead, AV.dead, AV.dead, AV.dead, AV.dead, AV.dead, AV.dead, AV.dead, AV.dead, AV.dead, AV.dead, AV.dead, AV.dead, AV.dead, AV.dead, AV.dead, AV.dead, AV.dead, AV.dead, AV.dead, AV.dead, AV.dead, AV.dead, AV.dead, AV.dead, AV.dead, AV.dead, AV.dead, AV.dead, AV.dead, AV.dead, AV.dead, AV.dead, AV.dead, AV.dead, AV.dead, AV.dead, AV.dead, AV.dead, AV.dead, AV.dead, AV.dead, AV.dead, AV.dead, AV.dead, AV.dead, AV.dead, AV.dead, AV.dead, AV.dead, AV.dead, AV.dead, AV.dead, AV.dead, AV.dead, AV.dead, AV.dead, AV.dead, AV.dead, AV.dead, AV.dead, AV.dead, AV.dead, AV.dead, AV.dead, AV.dead, AV.dead, AV.dead, AV.dead, AV.dead, AV.dead, AV.dead, AV.dead, AV.dead, AV.dead, AV.dead, AV.dead, AV.dead, AV.dead, AV.dead, AV.dead, AV.dead, AV.dead, AV.dead] (AH.mk (@List.nil (Prod Go.TypeId (List AV))) (@List.nil Nat) (0 : Nat) (0 : Nat) true (@List.nil (Prod Nat Bool)) True))))) else (some ((cdb (cdb (cdb (cdb (cdb True (listOk [(AV.lst (1 : Nat) (List.map gi zs) Tip.no)])) (plistOk [(AV.v (Value.string (f (AV.lst (1 : Nat) (List.map gi zs) Tip.no))))])) (decide (((0 : Int) ≤ x) ∧ (x < (18446744073709551616 : Int))))) (plistOk [(AV.v (Value.string s))])) (sameOk [(AV.lst (1 : Nat) (List.map gi (X (f (AV.lst (1 : Nat) (List.map gi zs) Tip.no)))) Tip.no), (AV.lst (1 : Nat) (List.map gi zs) Tip.no)])) ∧ (R Exit.ret [AV.dead, AV.dead, AV.dead, AV.dead, AV.dead, AV.dead, (AV.v (Value.bool false)), AV.dead, AV.dead, AV.dead, AV.dead, AV.dead, AV.dead, AV.dead, AV.dead, AV.dead, AV.dead, AV.dead, AV.dead, AV.dead, AV.dead, AV.dead, AV.dead, AV.dead, AV.dead, AV.dead, AV.dead, AV.dead, AV.dead, AV.dead, AV.dead, AV.dead, AV.dead, AV.dead, AV.dead, AV.dead, AV.dead, AV.dead, AV.dead, AV.dead, AV.dead, AV.dead, AV.dead, AV.dead, AV.dead, AV.dead, AV.dead, AV.dead, AV.dead, AV.dead, AV.dead, AV.dead, AV.dead, AV.dead, AV.dead, AV.dead, AV.dead, AV.dead, AV.dead, AV.dead, AV.dead, AV.dead, AV.dead, AV.dead, AV.dead, AV.dead, AV.dead, AV.dead, AV.dead, AV.dead, AV.dead, AV.dead, AV.dead, AV.dead, AV.dead, AV.dead, AV.dead, AV.dead, AV.dead, AV.dead, AV.dead, AV.dead, AV.dead, AV.dead, AV.dead, AV.dead, AV.dead, AV.dead, AV.dead, AV.dead, AV.dead, AV.dead, AV.dead, AV.dead, AV.dead, AV.dead] (AH.mk (@List.nil (Prod Go.TypeId (List AV))) (@List.nil Nat) (0 : Nat) (0 : Nat) true (@List.nil (Prod Nat Bool)) True))))) else (some ((cdb (cdb (cdb (cdb (cdb True (listOk [(AV.lst (1 : Nat) (List.map gi zs) Tip.no)])) (plistOk [(AV.v (Value.string (f (AV.lst (1 : Nat) (List.map gi zs) Tip.no))))])) (decide (((0 : Int) ≤ x) ∧ (x < (18446744073709551616 : Int))))) (plistOk [(AV.v (Value.string s))])) (sameOk [(AV.lst (1 : Nat) (List.map gi (X (f (AV.lst (1 : Nat) (List.map gi zs) Tip.no)))) Tip.no), (AV.lst (1 : Nat) (List.map gi zs) Tip.no)])) ∧ (R Exit.ret [AV.dead, AV.dead, AV.dead, AV.dead, AV.dead, AV.dead, (AV.v (Value.bool false)), AV.dead, AV.dead, AV.dead, AV.dead, AV.dead, AV.dead, AV.dead, AV.dead, AV.dead, AV.dead, AV.dead, AV.dead, AV.dead, AV.dead, AV.dead, AV.dead, AV.dead, AV.dead, AV.dead, AV.dead, AV.dead, AV.dead, AV.dead, AV.dead, AV.dead, AV.dead, AV.dead, AV.dead, AV.dead, AV.dead, AV.dead, AV.dead, AV.dead, AV.dead, AV.dead, AV.dead, AV.dead, AV.dead, AV.dead, AV.dead, AV.dead, AV.dead, AV.dead, AV.dead, AV.dead, AV.dead, AV.dead, AV.dead, AV.dead, AV.dead, AV.dead, AV.dead, AV.dead, AV.dead, AV.dead, AV.dead, AV.dead, AV.dead, AV.dead, AV.dead, AV.dead, AV.dead, AV.dead, AV.dead, AV.dead, AV.dead, AV.dead, AV.dead, AV.dead, AV.dead, AV.dead, AV.dead, AV.dead, AV.dead, AV.dead, AV.dead, AV.dead, AV.dead, AV.dead, AV.dead, AV.dead, AV.dead, AV.dead, AV.dead, AV.dead, AV.dead, AV.dead, AV.dead, AV.dead] (AH.mk (@List.nil (Prod Go.TypeId (List AV))) (@List.nil Nat) (0 : Nat) (0 : Nat) true (@List.nil (Prod Nat Bool)) True))))) := by kernel_rfl
end Go.Proofs.YtjnonfcemicmoaaDoor.AE
namespace Go.Proofs.YtjnonfcemicmoaaDoor.AE
open Go.RowKit
theorem laid_mem {P : Program} {W : World} : ∀ {l : List (String × DataW Unit)} {ps : List MemPlace}, DataW.LaidVars P W l ps → ∀ {n : String} {d : DataW Unit}, (n, d) ∈ l →
    ∃ g t cs fuel p, P.globalNamed n = some g ∧ (P.globals[g]?).map (·.type) = some t ∧ W.var? P n = some cs ∧ DataW.trod (fun _ => ()) P W 0 (fun _ => true) false fuel t cs.toList = some (d, p) ∧ ∀ x ∈ MemPlace.row ⟨g, 0, none⟩ cs.size, x ∈ ps
  | [], _, _, _, _, h => by cases h
  | (n0, d0) :: l, ps, hv, n, d, h => by
    obtain ⟨g, t, cs, fuel, p, q, h1, h2, h3, h4, h5, h6⟩ := hv
    rcases List.mem_cons.1 h with h | h
    · cases h
      exact ⟨g, t, cs, fuel, p, h1, h2, h3, h4, fun x hx => by rw [h6]; simp [hx]⟩
    · obtain ⟨g', t', cs', fuel', p', k1, k2, k3, k4, k5⟩ := laid_mem h5 h
      exact ⟨g', t', cs', fuel', p', k1, k2, k3, k4, fun x hx => by rw [h6]; simp [k5 x hx]⟩
/-- The block of a variable on the list. -/
theorem laid_block {P : Program} {W : World} {l : List (String × DataW Unit)} (hL : laidMet P l W) {n : String} {d : DataW Unit} (h : (n, d) ∈ l) {g : Nat} (hg : P.globalNamed n = some g) :
    ∃ t cs fuel p, (P.globals[g]?).map (·.type) = some t ∧ W.var? P n = some cs ∧ DataW.trod (fun _ => ()) P W 0 (fun _ => true) false fuel t cs.toList = some (d, p) ∧ (0 < cs.size → ∃ e, W.heap[g]? = some (.cells cs e (0, 0))) := by
  obtain ⟨ps, hv, _, hc⟩ := hL
  obtain ⟨g', t, cs, fuel, p, h1, h2, h3, h4, h5⟩ := laid_mem hv h
  rw [hg] at h1
  cases h1
  refine ⟨t, cs, fuel, p, h2, h3, h4, fun h0 => ?_⟩
  have hm : MemPlace.cell g 0 ∈ ps := h5 _ (by unfold MemPlace.row; simp; exact h0)
  obtain ⟨⟨c, e, he⟩, _⟩ := hc g 0 hm
  have hv3 := h3
  unfold World.var? at hv3
  rw [hg] at hv3
  simp only [Option.bind_some, he, Option.some.injEq] at hv3
  rw [hv3] at he
  exact ⟨e, he⟩
/-- A table of numbers, wherever it stands on the list. -/
theorem laid_table {P : Program} {W : World} {l : List (String × DataW Unit)} (hL : laidMet P l W) {name : String} {k : IntKind} {zs : List Int} (h : (name, Lib.tabData k zs) ∈ l) {g : Nat} {t e : TypeId} {n : Nat} (hg : P.globalNamed name = some g)
    (hty : (P.globals[g]?).map (·.type) = some t) (ht : P.underlying t = some (.array n e)) (he : P.underlying e = some (.int k)) (hce : P.cellsOf e = 1) (hct : P.cellsOf t = n) (h0 : 0 < zs.length) :
    (∀ (j : Nat) (u : Value), (zs.map fun z => Value.int k z)[j]? = some u → (G0 W).prot g j ∧ W.cell? ⟨g, j, none⟩ = some u) ∧ ¬ (G0 W).own g ∧ ∃ t, W.heap[g]? = some (.cells (zs.map fun z => Value.int k z).toArray t (0, 0)) := by
  obtain ⟨t', cs, fuel, p, h2, h3, h4, h5⟩ := laid_block hL h hg
  rw [hty] at h2
  cases h2
  have hcs := Lib.cells_of_tab ht he hce hct h4
  have hsz : cs.size = zs.length := by
    have := congrArg List.length hcs
    simpa using this
  obtain ⟨e', hb⟩ := h5 (by omega)
  have ha : cs = (zs.map fun z => Value.int k z).toArray := by rw [← hcs]
  rw [ha] at hb
  refine ⟨fun j u hu => ⟨?_, ?_⟩, fun o => o, e', hb⟩
  · show g < W.heap.size
    by_cases hlt : g < W.heap.size
    · exact hlt
    · rw [Array.getElem?_eq_none (by omega)] at hb; cases hb
  · simp only [World.cell?, hb]
    simpa using hu
theorem trod_iface {P : Program} {W : World} {t m : _} (hu : P.underlying t = some (.interface m)) {fuel : Nat} {cs : List Value} {nm : String} {d : DataW Unit} {p : List MemPlace} (h : DataW.trod (fun _ => ()) P W 0 (fun _ => true) false fuel t cs = some (.iface nm d, p)) : ∃ u v, cs = [.iface u v] := by
  cases fuel with
  | zero => simp [DataW.trod] at h
  | succ fuel =>
    rcases cs with _ | ⟨c, _ | ⟨c2, r⟩⟩
    · simp [DataW.trod, hu] at h
    · cases c <;> first
        | exact ⟨_, _, rfl⟩
        | (simp [DataW.trod, hu] at h)
    · cases c <;> simp [DataW.trod, hu] at h
/-- A variable that holds an error. -/
theorem laid_error {P : Program} {W : World} {l : List (String × DataW Unit)} (hL : laidMet P l W) {name nm : String} {d : DataW Unit} (h : (name, .iface nm d) ∈ l) {g : Nat} {t m : _} (hg : P.globalNamed name = some g)
    (hty : (P.globals[g]?).map (·.type) = some t) (ht : P.underlying t = some (.interface m)) :
    ∃ u v, (∀ (j : Nat) (x : Value), [Value.iface u v][j]? = some x → (G0 W).prot g j ∧ W.cell? ⟨g, j, none⟩ = some x) ∧ ¬ (G0 W).own g ∧ ∃ t, W.heap[g]? = some (.cells [Value.iface u v].toArray t (0, 0)) := by
  obtain ⟨t', cs, fuel, p, h2, h3, h4, h5⟩ := laid_block hL h hg
  rw [hty] at h2
  cases h2
  obtain ⟨u, v, hcs⟩ := trod_iface ht h4
  have ha : cs = [Value.iface u v].toArray := by rw [← hcs]
  have hsz : 0 < cs.size := by rw [ha]; exact Nat.zero_lt_one
  obtain ⟨e', hb⟩ := h5 hsz
  rw [ha] at hb
  refine ⟨u, v, fun j x hx => ⟨?_, ?_⟩, fun o => o, e', hb⟩
  · show g < W.heap.size
    by_cases hlt : g < W.heap.size
    · exact hlt
    · rw [Array.getElem?_eq_none (by omega)] at hb; cases hb
  · simp only [World.cell?, hb]
    simpa using hx
end Go.Proofs.YtjnonfcemicmoaaDoor.AE
namespace Go.Proofs.YtjnonfcemicmoaaDoor.AE
open Go.RowKit
theorem ro05_of {W : World} (h : laidMet Tryd.prog Rows.decTextsRow.laid W) : ∃ tS pS tR pR, Ro (ro05 tS pS tR pR) (G0 W) W := by
  obtain ⟨tS, pS, hS⟩ := laid_error h (name := "strconv.ErrSyntax") (nm := "*errors.errorString") (d := _) (List.mem_of_getElem? (i := 5) rfl) (g := 1) (by kernel_rfl) (t := 41) (by kernel_rfl) Tryd.underlying41
  obtain ⟨tR, pR, hR⟩ := laid_error h (name := "strconv.ErrRange") (nm := "*errors.errorString") (d := _) (List.mem_of_getElem? (i := 4) rfl) (g := 2) (by kernel_rfl) (t := 41) (by kernel_rfl) Tryd.underlying41
  have hT := laid_table h (name := "internal/strconv.uint64pow10") (k := .u64) (zs := Lib.pow10Tab) (List.mem_of_getElem? (i := 2) (by kernel_rfl)) (g := 3) (by kernel_rfl) (t := 95) (by kernel_rfl) Tryd.underlying95 Tryd.underlying22 (by kernel_rfl) (by kernel_rfl) (by decide)
  have hD := laid_table h (name := "lockkeeper/dec.digits") (k := .u8) (zs := [48, 49, 50, 51, 52, 53, 54, 55, 56, 57, 97, 98, 99, 100, 101, 102]) (List.mem_of_getElem? (i := 6) (by kernel_rfl)) (g := 0) (by kernel_rfl) (t := 47) (by kernel_rfl) Tryd.underlying47 Tryd.underlying5 (by kernel_rfl) (by kernel_rfl) (by decide)
  refine ⟨tS, pS, tR, pR, fun b cs hb => ?_⟩
  unfold ro05 at hb
  split at hb
  · cases hb; exact hT
  · cases hb; exact hD
  · cases hb; exact hS
  · cases hb; exact hR
  · cases hb
end Go.Proofs.YtjnonfcemicmoaaDoor.AE
namespace Go.Proofs.YtjnonfcemicmoaaDoor
open Go.RowKit AE
theorem AE.roS_of {W : World} (h : laidMet Tryd.prog Rows.decTextsRow.laid W) (hs : W.ShapedOpen Tryd.prog) : ∃ m tS pS tR pR, Ro (roS m tS pS tR pR) (G0 W) W := by
  obtain ⟨tS, pS, tR, pR, h1⟩ := ro05_of h
  obtain ⟨m, h2⟩ := shaped_int (g := 4) (t := 3) (zero := #[.int .i64 0]) (k := .i64) hs (of_decide_eq_true (by kernel_rfl)) (by kernel_rfl) rfl (by kernel_rfl) (by kernel_rfl) Tryd.underlying3
  refine ⟨m, tS, pS, tR, pR, fun b cs hb => ?_⟩
  unfold roS roM at hb
  split at hb
  · rename_i e; subst e; cases hb; exact h2
  · exact h1 b cs hb
theorem wf_i64 {n : Int} (h : (Lit.int .i64 n).wf = true) : inR n := by
  simp [Lit.wf, IntKind.min, IntKind.max, IntKind.signed, IntKind.bits] at h; unfold inR; omega
theorem wf_u64 {n : Int} (h : (Lit.int .u64 n).wf = true) : 0 ≤ n ∧ n < 18446744073709551616 := by
  simp [Lit.wf, IntKind.min, IntKind.max, IntKind.signed, IntKind.bits] at h; omega
theorem no_beq {α : Type} [BEq α] [LawfulBEq α] {n : α} {P : Prop} (h : (n == n) = false) : P := by simp at h
theorem same_refl {X : Prop} (l m : List Int) (h : l = m) (k : sameX (.lst 1 (l.map gi) .no) (.lst 1 (m.map gi) .no) = false) : X := by
  subst h
  unfold sameX at k
  simp at k
theorem sameOk_of (l m : List Int) (h : l.length ≤ 1000000) : sameOk [.lst 1 (l.map gi) .no, .lst 1 (m.map gi) .no] = true := by
  show ((match intsA? (.lst 1 (l.map gi) .no) with | some l => decide (l.length ≤ 1000000) | none => false) && (match intsA? (.lst 1 (m.map gi) .no) with | some _ => true | none => false)) = true
  rw [intsA_lst, intsA_lst]
  simp [h]
theorem listF_of (l : List Int) : listF (.lst 1 (l.map gi) .no) = listS l := by
  unfold listF intsX
  rw [intsA_lst]
theorem w_DecLists (w : World) (hR : ∃ m tS pS tR pR, Ro (roS m tS pS tR pR) (G0 w) w) (a : Option Addr) (cap : Nat) (zs : List Int) (hz : Ints w .i64 a zs) (_ : zs.length ≤ maxLen) (hw : ∀ n ∈ zs, (Lit.int .i64 n).wf = true) (hc : zs.length ≤ cap) (hm : cap ≤ maxLen) (s : ByteArray) (_ : s.size ≤ maxLen) :
    Calls Tryd.prog 4 #[.slice a zs.length cap, .string s] w fun e w' => e = .returned (.bool true) ∧ Below w.heap.size w w' := by
  obtain ⟨m, tS, pS, tR, pR, hR⟩ := hR
  refine law_true (args := [.lst 1 (zs.map gi) .no, .v (.string s)]) ?_ w _ hR (.cons (ints_rv hz hc hm) (.cons (.v _) .nil))
  have hr : ∀ z ∈ zs, inR z := fun z h => wf_i64 (hw z h)
  refine Fs.of_call knownL (t_DecLists listF plX plE sameX tx dpX dpY hexS pX pE m tS tR pS pR zs s fun r => r = .v (.bool true)) ?_
  refine holds_bif (fun _ => ⟨trivial, rfl⟩) fun h1 => holds_bif (fun _ => ⟨trivial, rfl⟩) fun h2 => holds_bif (fun _ => holds_bif (fun _ => holds_bif (fun _ => ⟨?_, rfl⟩) no_beq) (same_refl _ _ rfl)) no_beq
  have h1 := of_decide_eq_false h1
  have h2 := of_decide_eq_false h2
  rw [List.length_map] at h1
  have hl := plX_len s
  have k1 : plistOk [.v (.string s)] = true := decide_eq_true (by omega)
  have k2 : listOk [.lst 1 (zs.map gi) .no] = true := numsOk_of (by omega) hr
  have k3 := sameOk_of (plX s) (plX s) (by omega)
  repeat' first
    | with_reducible exact trivial
    | with_reducible refine cdb_iff.2 ⟨?_, ?_⟩
    | with_reducible exact k1
    | with_reducible exact k2
    | with_reducible exact k3
theorem bk_sl : slotsOf 5 = 96 := by kernel_rfl
theorem bk_re : resultsOf 5 = [.tmp 6] := by kernel_rfl
theorem bk_fl : (flatten (bodyOf 5)).drop 4 = .block 0 (.loop (sub (bodyOf 5) [1, 1, 0, 1, 0, 0])) :: (flatten (bodyOf 5)).drop 5 := by kernel_rfl
theorem fs_back (m : Int) (tS tR : TypeId) (pS pR : Value) (zs : List Int) (hr : ∀ z ∈ zs, inR z) (x : Nat) (hx : x < 18446744073709551616) (s : ByteArray) :
    Fs Tryd.prog (roS m tS pS tR pR) 5 [.lst 1 (zs.map gi) .no, .v (.int .u64 x), .v (.string s)] (hp [] []) fun r _ => r = .v (.bool true) := by
  refine Fs.of_body (has_fn (by kernel_rfl)) ?_
  rw [bk_sl, bk_re]
  have pre := fun R => bk_pre listF plX plE sameX tx dpX dpY hexS pX pE m tS tR pS pR zs x s R
  rw [len_cast] at pre
  refine Tr.of_flat (Trl.split 4 (Trl.of_code knownL (ne_nil (by kernel_rfl)) (pre _) (holds_bif (fun _ => ⟨trivial, .inr rfl, trivial, rfl⟩) fun h1 => holds_bif (fun _ => ⟨trivial, .inr rfl, trivial, rfl⟩) fun h2 => ⟨trivial, ?_⟩)))
  have h1 := of_decide_eq_false h1
  have h2 := of_decide_eq_false h2
  show Trl _ _ ((flatten (bodyOf 5)).drop 4) _ _ _
  rw [bk_fl]
  refine Tr.keepL [0, 1, 2, 7] rfl ?_
  let I : Nat → List AV → AH → Prop := fun m act H => ∃ i : Nat, i ≤ zs.length ∧ m = zs.length - i ∧ act = bA zs x s i ∧ H = hp [] []
  refine Tr.block (Tr.loop I ?_ (m := zs.length) ⟨0, Nat.zero_le _, rfl, rfl, rfl⟩)
  rintro m' act H ⟨i, hi, rfl, rfl, rfl⟩
  have body := fun R => bk_in listF plX plE sameX tx dpX dpY hexS pX pE m tS tR pS pR zs x s i R
  rw [len_cast, inc64 i (by omega)] at body
  refine Tr.of_code knownL (body _) (holds_bif (fun h3 => ?_) fun h3 => ⟨trivial, ?_⟩)
  · have h3 : i < zs.length := by have := of_decide_eq_true h3; omega
    have hz := hr _ (List.getElem_mem h3)
    obtain ⟨b1, b2⟩ := tx_back _ hz
    have g1 : (zs.map gi)[Int.toNat (i : Int)]? = some (.v (.int .i64 zs[i])) := gi_get h3
    have hts := itoa_len _ hz.1 hz.2
    rw [gi_ex h3, b1, b2]
    refine holds_bif (fun h => by simp at h) fun _ => holds_bif (fun h => by cases h) fun _ => ⟨?_, zs.length - (i + 1), by omega, i + 1, h3, rfl, rfl, rfl⟩
    repeat' first
      | with_reducible exact trivial
      | with_reducible refine cdb_iff.2 ⟨?_, ?_⟩
      | with_reducible refine cds_of ?_ ⟨Int.natCast_nonneg i, g1⟩
      | exact decide_eq_true hz
      | exact decide_eq_true (by omega)
  · have h3 : i = zs.length := by have := of_decide_eq_false h3; omega
    subst h3
    show Trl _ _ ((flatten (bodyOf 5)).drop 5) _ _ _
    obtain ⟨l1, l2⟩ := list_back zs hr
    obtain ⟨x1, x2⟩ := hex_back x hx
    have post := fun R => bk_post listF plX plE sameX tx dpX dpY hexS pX pE m tS tR pS pR zs x s (zs.length : Nat) R
    rw [listF_of, l1, l2, x1, x2] at post
    have hls : (listS zs).size ≤ 22 * zs.length + 1 := by
      unfold listS
      split
      · show 1 ≤ _; omega
      · have := joinB_size zs hr; omega
    have k1 : plistOk [.v (.string s)] = true := decide_eq_true (by omega)
    have k2 : listOk [.lst 1 (zs.map gi) .no] = true := numsOk_of (by omega) hr
    have k3 := sameOk_of zs zs (by omega)
    have k4 : plistOk [.v (.string (listS zs))] = true := decide_eq_true (by omega)
    have k5 : decide ((0 : Int) ≤ (x : Int) ∧ (x : Int) < 18446744073709551616) = true := decide_eq_true (by omega)
    refine Trl.of_code knownL (ne_nil (by kernel_rfl)) (post _) (holds_bif (fun _ => holds_bif (fun _ => holds_bif (fun _ => holds_bif (fun _ => holds_bif (fun h => ⟨?_, .inr rfl, trivial, rfl⟩) fun h => ?_) no_beq) no_beq) no_beq) (same_refl _ _ rfl))
    · repeat' first
        | with_reducible exact trivial
        | with_reducible refine cdb_iff.2 ⟨?_, ?_⟩
        | with_reducible exact k1
        | with_reducible exact k2
        | with_reducible exact k3
        | with_reducible exact k4
        | with_reducible exact k5
    · have h : plE s = 0 := by simpa using h
      obtain ⟨t1, t2⟩ := list_told h
      have hl := plX_len s
      have k6 : listOk [.lst 1 ((plX s).map gi) .no] = true := numsOk_of (by omega) t2
      rw [listF_of, t1]
      refine holds_bif (fun _ => ⟨?_, .inr rfl, trivial, rfl⟩) no_beq
      repeat' first
        | with_reducible exact trivial
        | with_reducible refine cdb_iff.2 ⟨?_, ?_⟩
        | with_reducible exact k1
        | with_reducible exact k2
        | with_reducible exact k3
        | with_reducible exact k4
        | with_reducible exact k5
        | with_reducible exact k6
theorem w_DecBack (w : World) (hR : ∃ m tS pS tR pR, Ro (roS m tS pS tR pR) (G0 w) w) (a : Option Addr) (cap : Nat) (zs : List Int) (hz : Ints w .i64 a zs) (_ : zs.length ≤ maxLen) (hw : ∀ n ∈ zs, (Lit.int .i64 n).wf = true) (hc : zs.length ≤ cap) (hm : cap ≤ maxLen)
    (x : Int) (hx : (Lit.int .u64 x).wf = true) (s : ByteArray) (_ : s.size ≤ maxLen) :
    Calls Tryd.prog 5 #[.slice a zs.length cap, .int .u64 x, .string s] w fun e w' => e = .returned (.bool true) ∧ Below w.heap.size w w' := by
  obtain ⟨m, tS, pS, tR, pR, hR⟩ := hR
  obtain ⟨x0, x1⟩ := wf_u64 hx
  obtain ⟨x, rfl⟩ := Int.eq_ofNat_of_zero_le x0
  exact law_true (fs_back m tS tR pS pR zs (fun z h => wf_i64 (hw z h)) x (by omega) s) w _ hR (.cons (ints_rv hz hc hm) (.cons (.v _) (.cons (.v _) .nil)))
end Go.Proofs.YtjnonfcemicmoaaDoor
