
/-
  The law LevelTexts of layer 8: the call comes to true.
-/
import Derived.Test.YtkcaaanmlaodkaaDoorAEByte
import Derived.Test.YtkcaaanmlaodkaaDoorAEDecP
import Derived.Lib.AtoiAllCases
import Derived.Test.YtkcaaanmlaodkaaDoorAEList
import Derived.Test.YtkcaaanmlaodkaaDoorAETr
import Derived.MakeChecks
import Derived.Lib.LaidTab
import Derived.Test.YtkcaaanmlaodkaaDoorAgg
namespace Go.Proofs.YtkcaaanmlaodkaaDoor.AE
open Go.RowKit
def spA (B C l k b : Int) (c : AV) : List AV := [.v (.int .i64 B), .v (.int .i64 C), .v (.int .i64 l)] ++ List.replicate 6 .dead ++ [.v (.int .i64 k), .v (.int .i64 b), c] ++ List.replicate 17 .dead
theorem t_awake (Φ : AV → Prop) : callK nro (fun _ => false) prX 14 11 [] (hp [] []) (fun r h => some (h.cd ∧ Φ r)) =
    (some (True ∧ (Φ (AV.v (Value.bool true))))) := by kernel_rfl
theorem s_pre (B C l : Int) (R : Exit → List AV → AH → Prop) : codeL nro (fun _ => false) prX 5 ((flatten (bodyOf 13)).take 3) ([.v (.int .i64 B), .v (.int .i64 C), .v (.int .i64 l)] ++ List.replicate 26 (.v undef)) (hp [] []) (kp [0, 1, 2, 9, 10] R) =
    (some (True ∧ (R Exit.normal [(AV.v (Value.int IntKind.i64 B)), (AV.v (Value.int IntKind.i64 C)), (AV.v (Value.int IntKind.i64 l)), AV.dead, AV.dead, AV.dead, AV.dead, AV.dead, AV.dead, (AV.v (Value.int IntKind.i64 (0 : Int))), (AV.v (Value.int IntKind.i64 (0 : Int))), AV.dead, AV.dead, AV.dead, AV.dead, AV.dead, AV.dead, AV.dead, AV.dead, AV.dead, AV.dead, AV.dead, AV.dead, AV.dead, AV.dead, AV.dead, AV.dead, AV.dead, AV.dead] (AH.mk (@List.nil (Prod Go.TypeId (List AV))) (@List.nil Nat) (0 : Nat) (0 : Nat) true (@List.nil (Prod Nat Bool)) True)))) := by kernel_rfl
theorem s_head (B C l k b : Int) (R : Exit → List AV → AH → Prop) : codeL nro (fun _ => false) prX 5 ((flatten (sub (bodyOf 13) [1, 1, 0, 1, 0, 0])).take 2) (spA B C l k b .dead) (hp [] []) (kp [0, 1, 2, 9, 10] R) =
    (bif (decide (b < B)) then (some (True ∧ (R Exit.normal [(AV.v (Value.int IntKind.i64 B)), (AV.v (Value.int IntKind.i64 C)), (AV.v (Value.int IntKind.i64 l)), AV.dead, AV.dead, AV.dead, AV.dead, AV.dead, AV.dead, (AV.v (Value.int IntKind.i64 k)), (AV.v (Value.int IntKind.i64 b)), AV.dead, AV.dead, AV.dead, AV.dead, AV.dead, AV.dead, AV.dead, AV.dead, AV.dead, AV.dead, AV.dead, AV.dead, AV.dead, AV.dead, AV.dead, AV.dead, AV.dead, AV.dead] (AH.mk (@List.nil (Prod Go.TypeId (List AV))) (@List.nil Nat) (0 : Nat) (0 : Nat) true (@List.nil (Prod Nat Bool)) True)))) else (some (True ∧ (R (Exit.exit (0 : Nat)) [(AV.v (Value.int IntKind.i64 B)), (AV.v (Value.int IntKind.i64 C)), (AV.v (Value.int IntKind.i64 l)), AV.dead, AV.dead, AV.dead, AV.dead, AV.dead, AV.dead, (AV.v (Value.int IntKind.i64 k)), (AV.v (Value.int IntKind.i64 b)), AV.dead, AV.dead, AV.dead, AV.dead, AV.dead, AV.dead, AV.dead, AV.dead, AV.dead, AV.dead, AV.dead, AV.dead, AV.dead, AV.dead, AV.dead, AV.dead, AV.dead, AV.dead] (AH.mk (@List.nil (Prod Go.TypeId (List AV))) (@List.nil Nat) (0 : Nat) (0 : Nat) true (@List.nil (Prod Nat Bool)) True))))) := by kernel_rfl
theorem s_five (B C l k b : Int) (R : Exit → List AV → AH → Prop) : codeL nro (fun _ => false) prX 5 ((flatten (sub (bodyOf 13) [1, 1, 0, 1, 0, 0, 1, 0, 0])).take 1) (spA B C l k b .dead) (hp [] []) (kp [0, 1, 2, 9, 10, 11] R) =
    (some (True ∧ (R Exit.normal [(AV.v (Value.int IntKind.i64 B)), (AV.v (Value.int IntKind.i64 C)), (AV.v (Value.int IntKind.i64 l)), AV.dead, AV.dead, AV.dead, AV.dead, AV.dead, AV.dead, (AV.v (Value.int IntKind.i64 k)), (AV.v (Value.int IntKind.i64 b)), (AV.v (Value.int IntKind.i64 (0 : Int))), AV.dead, AV.dead, AV.dead, AV.dead, AV.dead, AV.dead, AV.dead, AV.dead, AV.dead, AV.dead, AV.dead, AV.dead, AV.dead, AV.dead, AV.dead, AV.dead, AV.dead] (AH.mk (@List.nil (Prod Go.TypeId (List AV))) (@List.nil Nat) (0 : Nat) (0 : Nat) true (@List.nil (Prod Nat Bool)) True)))) := by kernel_rfl
theorem s_in (B C l k b c : Int) (R : Exit → List AV → AH → Prop) : code nro (fun _ => false) prX 5 (sub (bodyOf 13) [1, 1, 0, 1, 0, 0, 1, 0, 0, 1, 0, 0]) (spA B C l k b (.v (.int .i64 c))) (hp [] []) (kp [0, 1, 2, 6, 7, 8, 9, 10, 11] R) =
    (bif (decide (c < C)) then (bif (k == l) then (some (True ∧ (R Exit.ret [(AV.v (Value.int IntKind.i64 B)), (AV.v (Value.int IntKind.i64 C)), (AV.v (Value.int IntKind.i64 l)), AV.dead, AV.dead, AV.dead, (AV.v (Value.int IntKind.i64 b)), (AV.v (Value.int IntKind.i64 c)), (AV.v (Value.int IntKind.i64 (0 : Int))), (AV.v (Value.int IntKind.i64 k)), (AV.v (Value.int IntKind.i64 b)), (AV.v (Value.int IntKind.i64 c)), AV.dead, AV.dead, AV.dead, AV.dead, AV.dead, AV.dead, AV.dead, AV.dead, AV.dead, AV.dead, AV.dead, AV.dead, AV.dead, AV.dead, AV.dead, AV.dead, AV.dead] (AH.mk (@List.nil (Prod Go.TypeId (List AV))) (@List.nil Nat) (0 : Nat) (0 : Nat) true (@List.nil (Prod Nat Bool)) True)))) else (some (True ∧ (R Exit.normal [(AV.v (Value.int IntKind.i64 B)), (AV.v (Value.int IntKind.i64 C)), (AV.v (Value.int IntKind.i64 l)), AV.dead, AV.dead, AV.dead, AV.dead, AV.dead, AV.dead, (AV.v (Value.int IntKind.i64 (IntKind.wrap IntKind.i64 (k + (1 : Int))))), (AV.v (Value.int IntKind.i64 b)), (AV.v (Value.int IntKind.i64 (IntKind.wrap IntKind.i64 (c + (1 : Int))))), AV.dead, AV.dead, AV.dead, AV.dead, AV.dead, AV.dead, AV.dead, AV.dead, AV.dead, AV.dead, AV.dead, AV.dead, AV.dead, AV.dead, AV.dead, AV.dead, AV.dead] (AH.mk (@List.nil (Prod Go.TypeId (List AV))) (@List.nil Nat) (0 : Nat) (0 : Nat) true (@List.nil (Prod Nat Bool)) True))))) else (some (True ∧ (R (Exit.exit (2 : Nat)) [(AV.v (Value.int IntKind.i64 B)), (AV.v (Value.int IntKind.i64 C)), (AV.v (Value.int IntKind.i64 l)), AV.dead, AV.dead, AV.dead, AV.dead, AV.dead, AV.dead, (AV.v (Value.int IntKind.i64 k)), (AV.v (Value.int IntKind.i64 b)), (AV.v (Value.int IntKind.i64 c)), AV.dead, AV.dead, AV.dead, AV.dead, AV.dead, AV.dead, AV.dead, AV.dead, AV.dead, AV.dead, AV.dead, AV.dead, AV.dead, AV.dead, AV.dead, AV.dead, AV.dead] (AH.mk (@List.nil (Prod Go.TypeId (List AV))) (@List.nil Nat) (0 : Nat) (0 : Nat) true (@List.nil (Prod Nat Bool)) True))))) := by kernel_rfl
theorem s_four (B C l k b : Int) (R : Exit → List AV → AH → Prop) : codeL nro (fun _ => false) prX 5 ((flatten (sub (bodyOf 13) [1, 1, 0, 1, 0, 0])).drop 3) (spA B C l k b .dead) (hp [] []) (kp [0, 1, 2, 9, 10] R) =
    (some (True ∧ (R Exit.normal [(AV.v (Value.int IntKind.i64 B)), (AV.v (Value.int IntKind.i64 C)), (AV.v (Value.int IntKind.i64 l)), AV.dead, AV.dead, AV.dead, AV.dead, AV.dead, AV.dead, (AV.v (Value.int IntKind.i64 k)), (AV.v (Value.int IntKind.i64 (IntKind.wrap IntKind.i64 (b + (1 : Int))))), AV.dead, AV.dead, AV.dead, AV.dead, AV.dead, AV.dead, AV.dead, AV.dead, AV.dead, AV.dead, AV.dead, AV.dead, AV.dead, AV.dead, AV.dead, AV.dead, AV.dead, AV.dead] (AH.mk (@List.nil (Prod Go.TypeId (List AV))) (@List.nil Nat) (0 : Nat) (0 : Nat) true (@List.nil (Prod Nat Bool)) True)))) := by kernel_rfl
theorem s_post (B C l k b : Int) (R : Exit → List AV → AH → Prop) : codeL nro (fun _ => false) prX 5 ((flatten (bodyOf 13)).drop 4) (spA B C l k b .dead) (hp [] []) (kp [6, 7, 8] R) =
    (some (True ∧ (R Exit.ret [AV.dead, AV.dead, AV.dead, AV.dead, AV.dead, AV.dead, (AV.v (Value.int IntKind.i64 (0 : Int))), (AV.v (Value.int IntKind.i64 (0 : Int))), (AV.v (Value.int IntKind.i64 (1 : Int))), AV.dead, AV.dead, AV.dead, AV.dead, AV.dead, AV.dead, AV.dead, AV.dead, AV.dead, AV.dead, AV.dead, AV.dead, AV.dead, AV.dead, AV.dead, AV.dead, AV.dead, AV.dead, AV.dead, AV.dead] (AH.mk (@List.nil (Prod Go.TypeId (List AV))) (@List.nil Nat) (0 : Nat) (0 : Nat) true (@List.nil (Prod Nat Bool)) True)))) := by kernel_rfl
end Go.Proofs.YtkcaaanmlaodkaaDoor.AE
namespace Go.Proofs.YtkcaaanmlaodkaaDoor.AE
open Go.RowKit
theorem ne_nil {α : Type} {l : List α} (h : l.isEmpty = false) : l ≠ [] := by cases l <;> simp_all
theorem add_one (k : Nat) (h : k ≤ 1000000) : IntKind.wrap .i64 ((k : Int) + 1) = ((k + 1 : Nat) : Int) := by
  rw [IntKind.wrap_i64]; omega
theorem Fs.ro {g : FuncId} {args : List AV} {H : AH} {Φ : AV → AH → Prop} (h : Fs Tryd.prog nro g args H Φ) (ro : Nat → Option (List Value)) : Fs Tryd.prog ro g args H Φ :=
  fun G W cargs hI _ hA => h G W cargs hI (ro_none _ _) hA
def spV (B C : Nat) (l : Int) : Value := if 0 ≤ l ∧ l < (B * C : Nat) then .tuple #[.int .i64 (l.toNat / C : Nat), .int .i64 (l.toNat % C : Nat), .int .i64 0] else .tuple #[.int .i64 0, .int .i64 0, .int .i64 1]
theorem sl_sp : slotsOf 13 = 29 := by kernel_rfl
theorem re_sp : resultsOf 13 = [.tmp 6, .tmp 7, .tmp 8] := by kernel_rfl
theorem fl_sp : (flatten (bodyOf 13)).drop 3 = .block 0 (.loop (sub (bodyOf 13) [1, 1, 0, 1, 0, 0])) :: (flatten (bodyOf 13)).drop 4 := by kernel_rfl
theorem fl_sp2 : (flatten (sub (bodyOf 13) [1, 1, 0, 1, 0, 0])).drop 2 = .block 1 (sub (bodyOf 13) [1, 1, 0, 1, 0, 0, 1, 0, 0]) :: (flatten (sub (bodyOf 13) [1, 1, 0, 1, 0, 0])).drop 3 := by kernel_rfl
theorem fl_sp3 : (flatten (sub (bodyOf 13) [1, 1, 0, 1, 0, 0, 1, 0, 0])).drop 1 = [.block 2 (.loop (sub (bodyOf 13) [1, 1, 0, 1, 0, 0, 1, 0, 0, 1, 0, 0]))] := by kernel_rfl
theorem hit {C b c : Nat} (h : c < C) : (b * C + c) / C = b ∧ (b * C + c) % C = c := by
  rw [Nat.mul_comm]
  exact ⟨by rw [Nat.mul_add_div (by omega), Nat.div_eq_of_lt h, Nat.add_zero], by rw [Nat.mul_add_mod, Nat.mod_eq_of_lt h]⟩
theorem below {B C b c : Nat} (hb : b < B) (h : c < C) : b * C + c < B * C := by
  have h1 : (b + 1) * C ≤ B * C := Nat.mul_le_mul_right C hb
  rw [Nat.add_mul, Nat.one_mul] at h1
  omega
theorem fs_split (B C : Nat) (l : Int) (hB : B ≤ 8) (hC : C ≤ 16) : Fs Tryd.prog nro 13 [.v (.int .i64 B), .v (.int .i64 C), .v (.int .i64 l)] (hp [] []) fun r _ => r = .v (spV B C l) := by
  refine Fs.of_body (has_fn (by kernel_rfl)) ?_
  rw [sl_sp, re_sp]
  refine Tr.of_flat (Trl.split 3 (Trl.of_code (knownX nro) (ne_nil (by kernel_rfl)) (s_pre B C l _) ⟨trivial, ?_⟩))
  show Trl _ _ ((flatten (bodyOf 13)).drop 3) _ _ _
  rw [fl_sp]
  have hBC : B * C ≤ 128 := Nat.le_trans (Nat.mul_le_mul hB hC) (by decide)
  let I : Nat → List AV → AH → Prop := fun m act H => ∃ b k : Nat, b ≤ B ∧ m = B - b ∧ act = spA B C l k b .dead ∧ k = b * C ∧ (l < 0 ∨ (k : Int) ≤ l) ∧ H = hp [] []
  by_cases hl0 : l < 0 ∨ 0 ≤ l
  case neg => omega
  refine Tr.block (Tr.loop I ?_ (m := B) ⟨0, 0, Nat.zero_le _, rfl, rfl, by simp, hl0, rfl⟩)
  rintro m act H ⟨b, k, hb, rfl, rfl, hk, hl, rfl⟩
  have hbC : b * C ≤ B * C := Nat.mul_le_mul_right C hb
  refine Tr.of_flat (Trl.split 2 (Trl.of_code (knownX nro) (ne_nil (by kernel_rfl)) (s_head B C l k b _) (holds_bif (fun h8 => ⟨trivial, ?_⟩) (fun h8 => ⟨trivial, ?_⟩))))
  · have h8 := of_decide_eq_true h8
    have hbB : b < B := by omega
    show Trl _ _ ((flatten (sub (bodyOf 13) [1, 1, 0, 1, 0, 0])).drop 2) _ _ _
    rw [fl_sp2]
    refine Tr.block (Tr.of_flat (Trl.split 1 (Trl.of_code (knownX nro) (ne_nil (by kernel_rfl)) (s_five B C l k b _) ⟨trivial, ?_⟩)))
    show Trl _ _ ((flatten (sub (bodyOf 13) [1, 1, 0, 1, 0, 0, 1, 0, 0])).drop 1) _ _ _
    rw [fl_sp3]
    let J : Nat → List AV → AH → Prop := fun m act H => ∃ c k : Nat, c ≤ C ∧ m = C - c ∧ act = spA B C l k b (.v (.int .i64 (c : Nat))) ∧ k = b * C + c ∧ (l < 0 ∨ (k : Int) ≤ l) ∧ H = hp [] []
    refine Tr.block (Tr.loop J ?_ (m := C) ⟨0, k, Nat.zero_le _, rfl, rfl, hk, hl, rfl⟩)
    clear hk hl hl0
    rintro m act H ⟨c, k, hc, rfl, rfl, hk, hl, rfl⟩
    have body := fun R => s_in B C l k b c R
    rw [add_one k (by omega), add_one c (by omega)] at body
    refine Tr.of_code (knownX nro) (body _) (holds_bif (fun h9 => holds_bif (fun he => ⟨trivial, ?_⟩) (fun he => ⟨trivial, ?_⟩)) (fun h9 => ⟨trivial, ?_⟩))
    · have h9 := of_decide_eq_true h9
      have he : (k : Int) = l := eq_of_beq he
      have hcC : c < C := by omega
      obtain ⟨d1, d2⟩ := hit (b := b) hcC
      have hlt := below hbB hcC
      refine ⟨.inr rfl, trivial, ?_⟩
      show AV.v (.tuple #[.int .i64 b, .int .i64 c, .int .i64 0]) = _
      unfold spV
      rw [if_pos (by omega), ← he, Int.toNat_natCast, hk, d1, d2]
    · have h9 := of_decide_eq_true h9
      have he : ¬ (k : Int) = l := ne_of_beq_false he
      exact ⟨C - (c + 1), by omega, c + 1, k + 1, by omega, rfl, rfl, by omega, by omega, rfl⟩
    · have h9 := of_decide_eq_false h9
      obtain rfl : c = C := by omega
      have four := fun R => s_four B c l k b R
      rw [add_one b (by omega)] at four
      show Trl _ _ ((flatten (sub (bodyOf 13) [1, 1, 0, 1, 0, 0])).drop 3) _ _ _
      refine Tr.keepL [0, 1, 2, 9, 10] rfl ?_
      refine Trl.of_code (knownX nro) (ne_nil (by kernel_rfl)) (four _) ⟨trivial, ?_⟩
      exact ⟨B - (b + 1), by omega, b + 1, k, by omega, rfl, rfl, by rw [Nat.add_mul, Nat.one_mul]; omega, hl, rfl⟩
  · have h8 := of_decide_eq_false h8
    obtain rfl : b = B := by omega
    show Trl _ _ ((flatten (bodyOf 13)).drop 4) _ _ _
    refine Trl.of_code (knownX nro) (ne_nil (by kernel_rfl)) (s_post b C l k b _) ⟨trivial, .inr rfl, trivial, ?_⟩
    show AV.v (.tuple #[.int .i64 0, .int .i64 0, .int .i64 1]) = _
    unfold spV
    rw [if_neg (by omega)]
end Go.Proofs.YtkcaaanmlaodkaaDoor.AE
namespace Go.Proofs.YtkcaaanmlaodkaaDoor.AE
open Go.RowKit
def sB (B C l : Int) : Int := if 0 ≤ l ∧ l < B * C then ((l.toNat / C.toNat : Nat) : Int) else 0
def sC (B C l : Int) : Int := if 0 ≤ l ∧ l < B * C then ((l.toNat % C.toNat : Nat) : Int) else 0
def sE (B C l : Int) : Int := if 0 ≤ l ∧ l < B * C then 0 else 1
theorem spV_eq (B C : Nat) (l : Int) : spV B C l = .tuple #[.int .i64 (sB B C l), .int .i64 (sC B C l), .int .i64 (sE B C l)] := by
  unfold spV sB sC sE
  have e : ((B : Int) * (C : Int)) = ((B * C : Nat) : Int) := (Int.natCast_mul B C).symm
  rw [e]
  by_cases h : 0 ≤ l ∧ l < ((B * C : Nat) : Int)
  · rw [if_pos h, if_pos h, if_pos h, if_pos h]; rfl
  · rw [if_neg h, if_neg h, if_neg h, if_neg h]
def spP : List Value → Option (Value × Bool) := fun us => match us with
  | [.int .i64 B, .int .i64 C, .int .i64 l] => some (.tuple #[.int .i64 (sB B C l), .int .i64 (sC B C l), .int .i64 (sE B C l)], decide (0 ≤ B ∧ B ≤ 8 ∧ 0 ≤ C ∧ C ≤ 16))
  | _ => none
theorem sp_ok (ro : Nat → Option (List Value)) : ∀ args H r H', pure? spP args H = some (r, H') → HSound1 Tryd.prog ro 13 args H r H' := by
  refine pure_ok (fun us c hs => Fs.ro ?_ ro) (has_fn (by kernel_rfl))
  unfold spP at hs
  split at hs
  · rename_i B C l
    simp only [Option.some.injEq, Prod.mk.injEq, decide_eq_true_eq] at hs
    obtain ⟨rfl, h1, h2, h3, h4⟩ := hs
    obtain ⟨B, rfl⟩ := Int.eq_ofNat_of_zero_le h1
    obtain ⟨C, rfl⟩ := Int.eq_ofNat_of_zero_le h3
    rw [← spV_eq]
    exact fs_split B C l (by omega) (by omega)
  · cases hs
noncomputable def prO : FuncId → Option (List AV → AH → Ans) := fun g => match g with
  | 13 => some (pure? spP)
  | _ => none
theorem knownO (ro : Nat → Option (List Value)) : Known ro prO := by
  intro g p h
  unfold prO at h
  split at h
  · cases h; exact sp_ok _
  · cases h
def oA (B C x y k : Int) : List AV := [.v (.int .i64 B), .v (.int .i64 C), .v (.int .i64 x), .v (.int .i64 y)] ++ List.replicate 6 .dead ++ [.v (.int .i64 k)] ++ List.replicate 27 .dead
theorem o_pre (B C x y : Int) (R : Exit → List AV → AH → Prop) : codeL nro (fun _ => false) prO 5 ((flatten (bodyOf 12)).take 2) ([.v (.int .i64 B), .v (.int .i64 C), .v (.int .i64 x), .v (.int .i64 y)] ++ List.replicate 34 (.v undef)) (hp [] []) (kp [0, 1, 2, 3, 10] R) =
    (some (True ∧ (R Exit.normal [(AV.v (Value.int IntKind.i64 B)), (AV.v (Value.int IntKind.i64 C)), (AV.v (Value.int IntKind.i64 x)), (AV.v (Value.int IntKind.i64 y)), AV.dead, AV.dead, AV.dead, AV.dead, AV.dead, AV.dead, (AV.v (Value.int IntKind.i64 (0 : Int))), AV.dead, AV.dead, AV.dead, AV.dead, AV.dead, AV.dead, AV.dead, AV.dead, AV.dead, AV.dead, AV.dead, AV.dead, AV.dead, AV.dead, AV.dead, AV.dead, AV.dead, AV.dead, AV.dead, AV.dead, AV.dead, AV.dead, AV.dead, AV.dead, AV.dead, AV.dead, AV.dead] (AH.mk (@List.nil (Prod Go.TypeId (List AV))) (@List.nil Nat) (0 : Nat) (0 : Nat) true (@List.nil (Prod Nat Bool)) True)))) := by kernel_rfl
theorem o_in (B C x y k : Int) (R : Exit → List AV → AH → Prop) : code nro (fun _ => false) prO 5 (sub (bodyOf 12) [1, 0, 1, 0, 0]) (oA B C x y k) (hp [] []) (kp [0, 1, 2, 3, 8, 9, 10] R) =
    (bif (decide (k < (IntKind.wrap IntKind.i64 (B * C)))) then (bif ((sB B C k) == x) then (bif ((sC B C k) == y) then (some ((cdb True (decide (((0 : Int) ≤ B) ∧ ((B ≤ (8 : Int)) ∧ (((0 : Int) ≤ C) ∧ (C ≤ (16 : Int))))))) ∧ (R Exit.ret [(AV.v (Value.int IntKind.i64 B)), (AV.v (Value.int IntKind.i64 C)), (AV.v (Value.int IntKind.i64 x)), (AV.v (Value.int IntKind.i64 y)), AV.dead, AV.dead, AV.dead, AV.dead, (AV.v (Value.int IntKind.i64 k)), (AV.v (Value.int IntKind.i64 (0 : Int))), (AV.v (Value.int IntKind.i64 k)), AV.dead, AV.dead, AV.dead, AV.dead, AV.dead, AV.dead, AV.dead, AV.dead, AV.dead, AV.dead, AV.dead, AV.dead, AV.dead, AV.dead, AV.dead, AV.dead, AV.dead, AV.dead, AV.dead, AV.dead, AV.dead, AV.dead, AV.dead, AV.dead, AV.dead, AV.dead, AV.dead] (AH.mk (@List.nil (Prod Go.TypeId (List AV))) (@List.nil Nat) (0 : Nat) (0 : Nat) true (@List.nil (Prod Nat Bool)) True)))) else (some ((cdb True (decide (((0 : Int) ≤ B) ∧ ((B ≤ (8 : Int)) ∧ (((0 : Int) ≤ C) ∧ (C ≤ (16 : Int))))))) ∧ (R Exit.normal [(AV.v (Value.int IntKind.i64 B)), (AV.v (Value.int IntKind.i64 C)), (AV.v (Value.int IntKind.i64 x)), (AV.v (Value.int IntKind.i64 y)), AV.dead, AV.dead, AV.dead, AV.dead, AV.dead, AV.dead, (AV.v (Value.int IntKind.i64 (IntKind.wrap IntKind.i64 (k + (1 : Int))))), AV.dead, AV.dead, AV.dead, AV.dead, AV.dead, AV.dead, AV.dead, AV.dead, AV.dead, AV.dead, AV.dead, AV.dead, AV.dead, AV.dead, AV.dead, AV.dead, AV.dead, AV.dead, AV.dead, AV.dead, AV.dead, AV.dead, AV.dead, AV.dead, AV.dead, AV.dead, AV.dead] (AH.mk (@List.nil (Prod Go.TypeId (List AV))) (@List.nil Nat) (0 : Nat) (0 : Nat) true (@List.nil (Prod Nat Bool)) True))))) else (some ((cdb True (decide (((0 : Int) ≤ B) ∧ ((B ≤ (8 : Int)) ∧ (((0 : Int) ≤ C) ∧ (C ≤ (16 : Int))))))) ∧ (R Exit.normal [(AV.v (Value.int IntKind.i64 B)), (AV.v (Value.int IntKind.i64 C)), (AV.v (Value.int IntKind.i64 x)), (AV.v (Value.int IntKind.i64 y)), AV.dead, AV.dead, AV.dead, AV.dead, AV.dead, AV.dead, (AV.v (Value.int IntKind.i64 (IntKind.wrap IntKind.i64 (k + (1 : Int))))), AV.dead, AV.dead, AV.dead, AV.dead, AV.dead, AV.dead, AV.dead, AV.dead, AV.dead, AV.dead, AV.dead, AV.dead, AV.dead, AV.dead, AV.dead, AV.dead, AV.dead, AV.dead, AV.dead, AV.dead, AV.dead, AV.dead, AV.dead, AV.dead, AV.dead, AV.dead, AV.dead] (AH.mk (@List.nil (Prod Go.TypeId (List AV))) (@List.nil Nat) (0 : Nat) (0 : Nat) true (@List.nil (Prod Nat Bool)) True))))) else (some (True ∧ (R (Exit.exit (0 : Nat)) [(AV.v (Value.int IntKind.i64 B)), (AV.v (Value.int IntKind.i64 C)), (AV.v (Value.int IntKind.i64 x)), (AV.v (Value.int IntKind.i64 y)), AV.dead, AV.dead, AV.dead, AV.dead, AV.dead, AV.dead, (AV.v (Value.int IntKind.i64 k)), AV.dead, AV.dead, AV.dead, AV.dead, AV.dead, AV.dead, AV.dead, AV.dead, AV.dead, AV.dead, AV.dead, AV.dead, AV.dead, AV.dead, AV.dead, AV.dead, AV.dead, AV.dead, AV.dead, AV.dead, AV.dead, AV.dead, AV.dead, AV.dead, AV.dead, AV.dead, AV.dead] (AH.mk (@List.nil (Prod Go.TypeId (List AV))) (@List.nil Nat) (0 : Nat) (0 : Nat) true (@List.nil (Prod Nat Bool)) True))))) := by kernel_rfl
theorem o_post (B C x y k : Int) (R : Exit → List AV → AH → Prop) : codeL nro (fun _ => false) prO 5 ((flatten (bodyOf 12)).drop 3) (oA B C x y k) (hp [] []) (kp [8, 9] R) =
    (some (True ∧ (R Exit.ret [AV.dead, AV.dead, AV.dead, AV.dead, AV.dead, AV.dead, AV.dead, AV.dead, (AV.v (Value.int IntKind.i64 (0 : Int))), (AV.v (Value.int IntKind.i64 (1 : Int))), AV.dead, AV.dead, AV.dead, AV.dead, AV.dead, AV.dead, AV.dead, AV.dead, AV.dead, AV.dead, AV.dead, AV.dead, AV.dead, AV.dead, AV.dead, AV.dead, AV.dead, AV.dead, AV.dead, AV.dead, AV.dead, AV.dead, AV.dead, AV.dead, AV.dead, AV.dead, AV.dead, AV.dead] (AH.mk (@List.nil (Prod Go.TypeId (List AV))) (@List.nil Nat) (0 : Nat) (0 : Nat) true (@List.nil (Prod Nat Bool)) True)))) := by kernel_rfl
end Go.Proofs.YtkcaaanmlaodkaaDoor.AE
namespace Go.Proofs.YtkcaaanmlaodkaaDoor.AE
open Go.RowKit
def oN (B C x y : Int) : Int := if 0 ≤ x ∧ x < B ∧ 0 ≤ y ∧ y < C then x * C + y else 0
def oE (B C x y : Int) : Int := if 0 ≤ x ∧ x < B ∧ 0 ≤ y ∧ y < C then 0 else 1
theorem sl_of : slotsOf 12 = 38 := by kernel_rfl
theorem re_of : resultsOf 12 = [.tmp 8, .tmp 9] := by kernel_rfl
theorem fl_of : (flatten (bodyOf 12)).drop 2 = .block 0 (.loop (sub (bodyOf 12) [1, 0, 1, 0, 0])) :: (flatten (bodyOf 12)).drop 3 := by kernel_rfl
theorem sBC (B C k : Nat) (h : k < B * C) : sB B C k = ((k / C : Nat) : Int) ∧ sC B C k = ((k % C : Nat) : Int) := by
  have h2 : (0 : Int) ≤ (k : Int) ∧ (k : Int) < (B : Int) * (C : Int) := by
    rw [← Int.natCast_mul]; omega
  unfold sB sC
  rw [if_pos h2, if_pos h2]
  exact ⟨rfl, rfl⟩
theorem fs_of (B C : Nat) (x y : Int) (hB : B ≤ 8) (hC : C ≤ 16) : Fs Tryd.prog nro 12 [.v (.int .i64 B), .v (.int .i64 C), .v (.int .i64 x), .v (.int .i64 y)] (hp [] []) fun r _ => r = .v (.tuple #[.int .i64 (oN B C x y), .int .i64 (oE B C x y)]) := by
  refine Fs.of_body (has_fn (by kernel_rfl)) ?_
  rw [sl_of, re_of]
  refine Tr.of_flat (Trl.split 2 (Trl.of_code (knownO nro) (ne_nil (by kernel_rfl)) (o_pre B C x y _) ⟨trivial, ?_⟩))
  show Trl _ _ ((flatten (bodyOf 12)).drop 2) _ _ _
  rw [fl_of]
  have hBC : B * C ≤ 128 := Nat.le_trans (Nat.mul_le_mul hB hC) (by decide)
  have hw : IntKind.wrap .i64 ((B : Int) * (C : Int)) = ((B * C : Nat) : Int) := by rw [← Int.natCast_mul, IntKind.wrap_i64]; omega
  have cd : decide ((0 : Int) ≤ (B : Int) ∧ (B : Int) ≤ 8 ∧ (0 : Int) ≤ (C : Int) ∧ (C : Int) ≤ 16) = true := decide_eq_true ⟨by omega, by omega, by omega, by omega⟩
  let I : Nat → List AV → AH → Prop := fun m act H => ∃ k : Nat, k ≤ B * C ∧ m = B * C - k ∧ act = oA B C x y k ∧ (∀ b c : Nat, c < C → b * C + c < k → ¬ (x = b ∧ y = c)) ∧ H = hp [] []
  refine Tr.block (Tr.loop I ?_ (m := B * C) ⟨0, Nat.zero_le _, rfl, rfl, fun b c _ h => by omega, rfl⟩)
  rintro m act H ⟨k, hk, rfl, rfl, hno, rfl⟩
  have body := fun R => o_in B C x y k R
  rw [hw, add_one k (by omega)] at body
  have fin : k < B * C → ¬ (x = ((k / C : Nat) : Int) ∧ y = ((k % C : Nat) : Int)) → ∃ m', m' < B * C - k ∧ I m' (oA B C x y ((k + 1 : Nat) : Int)) (hp [] []) := fun hlt hne =>
    ⟨B * C - (k + 1), by omega, k + 1, by omega, rfl, rfl, fun b c hc hb hh => by
      by_cases e : b * C + c = k
      · obtain ⟨d1, d2⟩ := hit (b := b) hc
        rw [e] at d1 d2
        rw [d1, d2] at hne
        exact hne hh
      · exact hno b c hc (by omega) hh, rfl⟩
  refine Tr.of_code (knownO nro) (body _) (holds_bif (fun h8 => ?_) (fun h8 => ⟨trivial, ?_⟩))
  · have h8 := of_decide_eq_true h8
    have hlt : k < B * C := by omega
    obtain ⟨s1, s2⟩ := sBC B C k hlt
    rw [s1, s2]
    have hC0 : 0 < C := Nat.pos_of_ne_zero (by rintro rfl; omega)
    refine holds_bif (fun h1 => holds_bif (fun h2 => ⟨cdb_iff.2 ⟨trivial, cd⟩, ?_⟩) (fun h2 => ⟨cdb_iff.2 ⟨trivial, cd⟩, ?_⟩)) (fun h1 => ⟨cdb_iff.2 ⟨trivial, cd⟩, ?_⟩)
    · have h1 : ((k / C : Nat) : Int) = x := eq_of_beq h1
      have h2 : ((k % C : Nat) : Int) = y := eq_of_beq h2
      refine ⟨.inr rfl, trivial, ?_⟩
      show AV.v (.tuple #[.int .i64 (k : Nat), .int .i64 0]) = _
      have l1 : k % C < C := Nat.mod_lt _ hC0
      have l2 : k / C < B := Nat.div_lt_of_lt_mul (by rw [Nat.mul_comm]; exact hlt)
      have l3 : k / C * C + k % C = k := Nat.div_add_mod' k C
      have hr : 0 ≤ x ∧ x < (B : Int) ∧ 0 ≤ y ∧ y < (C : Int) := ⟨by rw [← h1]; exact Int.natCast_nonneg _, by rw [← h1]; exact Int.ofNat_lt.2 l2, by rw [← h2]; exact Int.natCast_nonneg _, by rw [← h2]; exact Int.ofNat_lt.2 l1⟩
      unfold oN oE
      rw [if_pos hr, if_pos hr, ← h1, ← h2, ← Int.natCast_mul, ← Int.natCast_add, l3]
    · have h2 : ¬ ((k % C : Nat) : Int) = y := ne_of_beq_false h2
      exact fin hlt fun h => h2 h.2.symm
    · have h1 : ¬ ((k / C : Nat) : Int) = x := ne_of_beq_false h1
      exact fin hlt fun h => h1 h.1.symm
  · have h8 := of_decide_eq_false h8
    obtain rfl : k = B * C := by omega
    show Trl _ _ ((flatten (bodyOf 12)).drop 3) _ _ _
    refine Trl.of_code (knownO nro) (ne_nil (by kernel_rfl)) (o_post B C x y _ _) ⟨trivial, .inr rfl, trivial, ?_⟩
    show AV.v (.tuple #[.int .i64 0, .int .i64 1]) = _
    have hn : ¬ (0 ≤ x ∧ x < (B : Int) ∧ 0 ≤ y ∧ y < (C : Int)) := by
      rintro ⟨x0, xB, y0, yC⟩
      obtain ⟨b, rfl⟩ := Int.eq_ofNat_of_zero_le x0
      obtain ⟨c, rfl⟩ := Int.eq_ofNat_of_zero_le y0
      exact hno b c (by omega) (below (by omega) (by omega)) ⟨rfl, rfl⟩
    unfold oN oE
    rw [if_neg hn, if_neg hn]
def ofQ : List Value → Option (Value × Bool) := fun us => match us with
  | [.int .i64 B, .int .i64 C, .int .i64 x, .int .i64 y] => some (.tuple #[.int .i64 (oN B C x y), .int .i64 (oE B C x y)], decide (0 ≤ B ∧ B ≤ 8 ∧ 0 ≤ C ∧ C ≤ 16))
  | _ => none
theorem of_ok (ro : Nat → Option (List Value)) : ∀ args H r H', pure? ofQ args H = some (r, H') → HSound1 Tryd.prog ro 12 args H r H' := by
  refine pure_ok (fun us c hs => Fs.ro ?_ ro) (has_fn (by kernel_rfl))
  unfold ofQ at hs
  split at hs
  · rename_i B C x y
    simp only [Option.some.injEq, Prod.mk.injEq, decide_eq_true_eq] at hs
    obtain ⟨rfl, h1, h2, h3, h4⟩ := hs
    obtain ⟨B, rfl⟩ := Int.eq_ofNat_of_zero_le h1
    obtain ⟨C, rfl⟩ := Int.eq_ofNat_of_zero_le h3
    exact fs_of B C x y (by omega) (by omega)
  · cases hs
theorem fs_awake : Fs Tryd.prog nro 11 [] (hp [] []) fun r _ => r = .v (.bool true) :=
  Fs.of_call (knownX nro) (t_awake fun r => r = .v (.bool true)) ⟨trivial, rfl⟩
theorem awake_ok8 : ∀ args H r H', pure? awakeS args H = some (r, H') → HSound1 Tryd.prog nro 11 args H r H' := by
  refine pure_ok (fun us c hs => ?_) (has_fn (by kernel_rfl))
  unfold awakeS at hs
  split at hs
  · cases hs; exact fs_awake
  · cases hs
noncomputable def prZ : FuncId → Option (List AV → AH → Ans) := fun g => match g with
  | 13 => some (pure? spP)
  | 12 => some (pure? ofQ)
  | 11 => some (pure? awakeS)
  | _ => none
theorem knownZ : Known nro prZ := by
  intro g p h
  unfold prZ at h
  split at h
  · cases h; exact sp_ok _
  · cases h; exact of_ok _
  · cases h; exact awake_ok8
  · cases h
end Go.Proofs.YtkcaaanmlaodkaaDoor.AE
namespace Go.Proofs.YtkcaaanmlaodkaaDoor.AE
open Go.RowKit
theorem t_right (B C : Int) (Φ : AV → Prop) : callK nro (fun _ => false) (fun _ => none) 6 7 [.v (.int .i64 B), .v (.int .i64 C)] (hp [] []) (fun r h => some (h.cd ∧ Φ r)) =
    (bif (decide ((1 : Int) ≤ B)) then (bif (decide (B ≤ (8 : Int))) then (bif (decide ((1 : Int) ≤ C)) then (some (True ∧ (Φ (AV.v (Value.bool (decide (C ≤ (16 : Int)))))))) else (some (True ∧ (Φ (AV.v (Value.bool false)))))) else (some (True ∧ (Φ (AV.v (Value.bool false)))))) else (some (True ∧ (Φ (AV.v (Value.bool false)))))) := by kernel_rfl
theorem t_new (B C : Int) (Φ : AV → Prop) : callK nro (fun _ => false) (fun _ => none) 6 6 [.v (.int .i64 B), .v (.int .i64 C)] (hp [] []) (fun r h => some (h.cd ∧ Φ r)) =
    (bif (decide (B < (1 : Int))) then (some (True ∧ (Φ (AV.v (Value.tuple #[(Value.agg #[(Value.int IntKind.i64 (0 : Int)), (Value.int IntKind.i64 (0 : Int))]), (Value.int IntKind.i64 (1 : Int))]))))) else (bif (decide ((8 : Int) < B)) then (some (True ∧ (Φ (AV.v (Value.tuple #[(Value.agg #[(Value.int IntKind.i64 (0 : Int)), (Value.int IntKind.i64 (0 : Int))]), (Value.int IntKind.i64 (1 : Int))]))))) else (bif (decide (C < (1 : Int))) then (some (True ∧ (Φ (AV.v (Value.tuple #[(Value.agg #[(Value.int IntKind.i64 (0 : Int)), (Value.int IntKind.i64 (0 : Int))]), (Value.int IntKind.i64 (1 : Int))]))))) else (bif (decide ((16 : Int) < C)) then (some (True ∧ (Φ (AV.v (Value.tuple #[(Value.agg #[(Value.int IntKind.i64 (0 : Int)), (Value.int IntKind.i64 (0 : Int))]), (Value.int IntKind.i64 (1 : Int))]))))) else (some (True ∧ (Φ (AV.v (Value.tuple #[(Value.agg #[(Value.int IntKind.i64 B), (Value.int IntKind.i64 C)]), (Value.int IntKind.i64 (0 : Int))]))))))))) := by kernel_rfl
theorem t_gof (B C x y : Int) (Φ : AV → Prop) : callK nro (fun _ => false) (fun _ => none) 6 8 [.v (.agg #[.int .i64 B, .int .i64 C]), .v (.int .i64 x), .v (.int .i64 y)] (hp [] []) (fun r h => some (h.cd ∧ Φ r)) =
    (bif (decide ((0 : Int) ≤ x)) then (bif (decide (x < B)) then (bif (decide ((0 : Int) ≤ y)) then (bif (!(decide (y < C))) then (some (True ∧ (Φ (AV.v (Value.tuple #[(Value.int IntKind.i64 (0 : Int)), (Value.int IntKind.i64 (1 : Int))]))))) else (some (True ∧ (Φ (AV.v (Value.tuple #[(Value.int IntKind.i64 (IntKind.wrap IntKind.i64 ((IntKind.wrap IntKind.i64 (x * C)) + y))), (Value.int IntKind.i64 (0 : Int))])))))) else (some (True ∧ (Φ (AV.v (Value.tuple #[(Value.int IntKind.i64 (0 : Int)), (Value.int IntKind.i64 (1 : Int))])))))) else (some (True ∧ (Φ (AV.v (Value.tuple #[(Value.int IntKind.i64 (0 : Int)), (Value.int IntKind.i64 (1 : Int))])))))) else (some (True ∧ (Φ (AV.v (Value.tuple #[(Value.int IntKind.i64 (0 : Int)), (Value.int IntKind.i64 (1 : Int))])))))) := by kernel_rfl
theorem t_gsplit (B l : Int) (n : Nat) (Φ : AV → Prop) : callK nro (fun _ => false) (fun _ => none) 6 9 [.v (.agg #[.int .i64 B, .int .i64 (Int.ofNat (n + 1))]), .v (.int .i64 l)] (hp [] []) (fun r h => some (h.cd ∧ Φ r)) =
    (bif (((B == (0 : Int)) && (((Int.ofNat (n + (1 : Nat))) == (0 : Int)) && true)) && true) then (some (True ∧ (Φ (AV.v (Value.tuple #[(Value.int IntKind.i64 (0 : Int)), (Value.int IntKind.i64 (0 : Int)), (Value.int IntKind.i64 (1 : Int))]))))) else (bif (decide (l < (0 : Int))) then (some (True ∧ (Φ (AV.v (Value.tuple #[(Value.int IntKind.i64 (0 : Int)), (Value.int IntKind.i64 (0 : Int)), (Value.int IntKind.i64 (1 : Int))]))))) else (bif (decide ((IntKind.wrap IntKind.i64 (B * (Int.ofNat (n + (1 : Nat))))) ≤ l)) then (some (True ∧ (Φ (AV.v (Value.tuple #[(Value.int IntKind.i64 (0 : Int)), (Value.int IntKind.i64 (0 : Int)), (Value.int IntKind.i64 (1 : Int))]))))) else (some (True ∧ (Φ (AV.v (Value.tuple #[(Value.int IntKind.i64 (IntKind.wrap IntKind.i64 (Int.tdiv l (Int.ofNat (n + (1 : Nat)))))), (Value.int IntKind.i64 (Int.tmod l (Int.ofNat (n + (1 : Nat))))), (Value.int IntKind.i64 (0 : Int))])))))))) := by kernel_rfl
theorem t_gsplit0 (l : Int) (Φ : AV → Prop) : callK nro (fun _ => false) (fun _ => none) 6 9 [.v (.agg #[.int .i64 0, .int .i64 0]), .v (.int .i64 l)] (hp [] []) (fun r h => some (h.cd ∧ Φ r)) =
    (some (True ∧ (Φ (AV.v (Value.tuple #[(Value.int IntKind.i64 (0 : Int)), (Value.int IntKind.i64 (0 : Int)), (Value.int IntKind.i64 (1 : Int))]))))) := by kernel_rfl
theorem t_glev (B C : Int) (Φ : AV → Prop) : callK nro (fun _ => false) (fun _ => none) 6 10 [.v (.agg #[.int .i64 B, .int .i64 C])] (hp [] []) (fun r h => some (h.cd ∧ Φ r)) =
    (some (True ∧ (Φ (AV.v (Value.int IntKind.i64 (IntKind.wrap IntKind.i64 (B * C))))))) := by kernel_rfl
end Go.Proofs.YtkcaaanmlaodkaaDoor.AE
namespace Go.Proofs.YtkcaaanmlaodkaaDoor.AE
open Go.RowKit
def rt (B C : Int) : Bool := decide (1 ≤ B ∧ B ≤ 8 ∧ 1 ≤ C ∧ C ≤ 16)
def nB (B C : Int) : Int := if rt B C = true then B else 0
def nC (B C : Int) : Int := if rt B C = true then C else 0
def nE (B C : Int) : Int := if rt B C = true then 0 else 1
theorem fs_right (B C : Int) : Fs Tryd.prog nro 7 [.v (.int .i64 B), .v (.int .i64 C)] (hp [] []) fun r _ => r = .v (.bool (rt B C)) := by
  refine Fs.of_call (known_none nro) (t_right B C fun r => r = .v (.bool (rt B C))) ?_
  unfold rt
  repeat' (with_reducible refine holds_bif ?_ ?_ <;> intro h <;> simp only [decide_eq_true_eq, decide_eq_false_iff_not] at h)
  all_goals (refine ⟨trivial, congrArg (fun b => AV.v (.bool b)) ?_⟩; first | (exact (decide_eq_false (by omega)).symm) | (exact decide_eq_decide.2 (by omega)))
theorem fs_new (B C : Int) : Fs Tryd.prog nro 6 [.v (.int .i64 B), .v (.int .i64 C)] (hp [] []) fun r _ => r = .v (.tuple #[.agg #[.int .i64 (nB B C), .int .i64 (nC B C)], .int .i64 (nE B C)]) := by
  refine Fs.of_call (known_none nro) (t_new B C fun r => r = .v (.tuple #[.agg #[.int .i64 (nB B C), .int .i64 (nC B C)], .int .i64 (nE B C)])) ?_
  unfold nB nC nE rt
  repeat' (with_reducible refine holds_bif ?_ ?_ <;> intro h <;> simp only [decide_eq_true_eq, decide_eq_false_iff_not] at h)
  all_goals (refine ⟨trivial, ?_⟩; simp only [decide_eq_true_eq])
  · rw [if_neg (by omega), if_neg (by omega), if_neg (by omega)]
  · rw [if_neg (by omega), if_neg (by omega), if_neg (by omega)]
  · rw [if_neg (by omega), if_neg (by omega), if_neg (by omega)]
  · rw [if_neg (by omega), if_neg (by omega), if_neg (by omega)]
  · rw [if_pos (by omega), if_pos (by omega), if_pos (by omega)]
theorem mul_le (x C : Nat) (hx : x ≤ 8) (hC : C ≤ 16) : x * C ≤ 128 := Nat.le_trans (Nat.mul_le_mul hx hC) (by decide)
theorem fs_glev (B C : Nat) (hB : B ≤ 8) (hC : C ≤ 16) : Fs Tryd.prog nro 10 [.v (.agg #[.int .i64 B, .int .i64 C])] (hp [] []) fun r _ => r = .v (.int .i64 (B * C)) := by
  refine Fs.of_call (known_none nro) (t_glev B C fun r => r = .v (.int .i64 (B * C))) ⟨trivial, ?_⟩
  have := mul_le B C hB hC
  refine congrArg (fun z => AV.v (.int .i64 z)) ?_
  rw [← Int.natCast_mul, IntKind.wrap_i64]
  omega
theorem fs_gof (B C : Nat) (x y : Int) (hB : B ≤ 8) (hC : C ≤ 16) : Fs Tryd.prog nro 8 [.v (.agg #[.int .i64 B, .int .i64 C]), .v (.int .i64 x), .v (.int .i64 y)] (hp [] []) fun r _ => r = .v (.tuple #[.int .i64 (oN B C x y), .int .i64 (oE B C x y)]) := by
  refine Fs.of_call (known_none nro) (t_gof B C x y fun r => r = .v (.tuple #[.int .i64 (oN B C x y), .int .i64 (oE B C x y)])) ?_
  unfold oN oE
  repeat' (with_reducible refine holds_bif ?_ ?_ <;> intro h <;> simp only [decide_eq_true_eq, decide_eq_false_iff_not, Bool.not_eq_true', Bool.not_eq_false'] at h)
  · rw [if_neg (by omega), if_neg (by omega)]; exact ⟨trivial, rfl⟩
  · rw [if_pos (by omega), if_pos (by omega)]
    refine ⟨trivial, congrArg (fun z => AV.v (.tuple #[.int .i64 z, .int .i64 0])) ?_⟩
    obtain ⟨x, rfl⟩ := Int.eq_ofNat_of_zero_le (show 0 ≤ x by omega)
    have := mul_le x C (by omega) hC
    rw [← Int.natCast_mul, IntKind.wrap_i64, IntKind.wrap_i64]
    omega
  · rw [if_neg (by omega), if_neg (by omega)]; exact ⟨trivial, rfl⟩
  · rw [if_neg (by omega), if_neg (by omega)]; exact ⟨trivial, rfl⟩
  · rw [if_neg (by omega), if_neg (by omega)]; exact ⟨trivial, rfl⟩
theorem fs_gsplit (B n : Nat) (l : Int) (hB : B ≤ 8) (hC : n + 1 ≤ 16) : Fs Tryd.prog nro 9 [.v (.agg #[.int .i64 B, .int .i64 (Int.ofNat (n + 1))]), .v (.int .i64 l)] (hp [] []) fun r _ => r = .v (.tuple #[.int .i64 (sB B (n + 1 : Nat) l), .int .i64 (sC B (n + 1 : Nat) l), .int .i64 (sE B (n + 1 : Nat) l)]) := by
  have t := t_gsplit B l n fun r => r = .v (.tuple #[.int .i64 (sB B (n + 1 : Nat) l), .int .i64 (sC B (n + 1 : Nat) l), .int .i64 (sE B (n + 1 : Nat) l)])
  have hm := mul_le B (n + 1) hB hC
  have hw : IntKind.wrap .i64 ((B : Int) * Int.ofNat (n + 1)) = ((B * (n + 1) : Nat) : Int) := by
    show IntKind.wrap .i64 ((B : Int) * ((n + 1 : Nat) : Int)) = _
    rw [← Int.natCast_mul, IntKind.wrap_i64]
    omega
  have hi : (B : Int) * ((n + 1 : Nat) : Int) = ((B * (n + 1) : Nat) : Int) := (Int.natCast_mul _ _).symm
  rw [hw] at t
  refine Fs.of_call (known_none nro) t (holds_bif (fun h => ?_) fun _ => holds_bif (fun h => ?_) fun h0 => holds_bif (fun h => ?_) fun h => ?_)
  · rw [show (Int.ofNat (n + 1) == 0) = false from rfl] at h
    simp at h
  · have h := of_decide_eq_true h
    refine ⟨trivial, ?_⟩
    unfold sB sC sE
    rw [if_neg (by omega), if_neg (by omega), if_neg (by omega)]
  · have h := of_decide_eq_true h
    refine ⟨trivial, ?_⟩
    unfold sB sC sE
    rw [hi, if_neg (by omega), if_neg (by omega), if_neg (by omega)]
  · have h0 := of_decide_eq_false h0
    have h := of_decide_eq_false h
    obtain ⟨l, rfl⟩ := Int.eq_ofNat_of_zero_le (show 0 ≤ l by omega)
    refine ⟨trivial, ?_⟩
    unfold sB sC sE
    rw [hi, if_pos (by omega), if_pos (by omega), if_pos (by omega)]
    have hd : l / (n + 1) ≤ l := Nat.div_le_self _ _
    have e1 : IntKind.wrap .i64 (Int.tdiv (l : Int) (Int.ofNat (n + 1))) = ((l / (n + 1) : Nat) : Int) := by
      rw [show Int.tdiv (l : Int) (Int.ofNat (n + 1)) = ((l / (n + 1) : Nat) : Int) from rfl, IntKind.wrap_i64]
      generalize l / (n + 1) = q at hd ⊢
      omega
    rw [e1]
    rfl
theorem fs_gsplit0 (l : Int) : Fs Tryd.prog nro 9 [.v (.agg #[.int .i64 0, .int .i64 0]), .v (.int .i64 l)] (hp [] []) fun r _ => r = .v (.tuple #[.int .i64 (sB 0 0 l), .int .i64 (sC 0 0 l), .int .i64 (sE 0 0 l)]) := by
  refine Fs.of_call (known_none nro) (t_gsplit0 l fun r => r = .v (.tuple #[.int .i64 (sB 0 0 l), .int .i64 (sC 0 0 l), .int .i64 (sE 0 0 l)])) ⟨trivial, ?_⟩
  unfold sB sC sE
  rw [if_neg (by omega), if_neg (by omega), if_neg (by omega)]
def rtP : List Value → Option (Value × Bool) := fun us => match us with
  | [.int .i64 B, .int .i64 C] => some (.bool (rt B C), true)
  | _ => none
def nwP : List Value → Option (Value × Bool) := fun us => match us with
  | [.int .i64 B, .int .i64 C] => some (.tuple #[.agg #[.int .i64 (nB B C), .int .i64 (nC B C)], .int .i64 (nE B C)], true)
  | _ => none
def okG (B C : Int) : Bool := decide (0 ≤ B ∧ B ≤ 8 ∧ 0 ≤ C ∧ C ≤ 16 ∧ (C = 0 → B = 0))
def gofP : List Value → Option (Value × Bool) := fun us => match us with
  | [.agg a, .int .i64 x, .int .i64 y] => match a.toList with
    | [.int .i64 B, .int .i64 C] => some (.tuple #[.int .i64 (oN B C x y), .int .i64 (oE B C x y)], okG B C)
    | _ => none
  | _ => none
def gspP : List Value → Option (Value × Bool) := fun us => match us with
  | [.agg a, .int .i64 l] => match a.toList with
    | [.int .i64 B, .int .i64 C] => some (.tuple #[.int .i64 (sB B C l), .int .i64 (sC B C l), .int .i64 (sE B C l)], okG B C)
    | _ => none
  | _ => none
def glvP : List Value → Option (Value × Bool) := fun us => match us with
  | [.agg a] => match a.toList with
    | [.int .i64 B, .int .i64 C] => some (.int .i64 (B * C), okG B C)
    | _ => none
  | _ => none
theorem agg_two {a : Array Value} {x y : Value} (h : a.toList = [x, y]) : a = #[x, y] := Array.toList_inj.1 h
theorem right_ok (ro : Nat → Option (List Value)) : ∀ args H r H', pure? rtP args H = some (r, H') → HSound1 Tryd.prog ro 7 args H r H' := by
  refine pure_ok (fun us c hs => Fs.ro ?_ ro) (has_fn (by kernel_rfl))
  unfold rtP at hs
  split at hs
  · simp only [Option.some.injEq, Prod.mk.injEq, and_true] at hs
    subst hs; exact fs_right _ _
  · cases hs
theorem new_ok (ro : Nat → Option (List Value)) : ∀ args H r H', pure? nwP args H = some (r, H') → HSound1 Tryd.prog ro 6 args H r H' := by
  refine pure_ok (fun us c hs => Fs.ro ?_ ro) (has_fn (by kernel_rfl))
  unfold nwP at hs
  split at hs
  · simp only [Option.some.injEq, Prod.mk.injEq, and_true] at hs
    subst hs; exact fs_new _ _
  · cases hs
theorem gof_ok (ro : Nat → Option (List Value)) : ∀ args H r H', pure? gofP args H = some (r, H') → HSound1 Tryd.prog ro 8 args H r H' := by
  refine pure_ok (fun us c hs => Fs.ro ?_ ro) (has_fn (by kernel_rfl))
  unfold gofP at hs
  split at hs
  · split at hs
    · rename_i ha
      have ha := agg_two ha
      subst ha
      unfold okG at hs
      simp only [Option.some.injEq, Prod.mk.injEq, decide_eq_true_eq] at hs
      obtain ⟨rfl, h1, h2, h3, h4, h5⟩ := hs
      rename_i B C
      obtain ⟨B, rfl⟩ := Int.eq_ofNat_of_zero_le h1
      obtain ⟨C, rfl⟩ := Int.eq_ofNat_of_zero_le h3
      exact fs_gof B C _ _ (by omega) (by omega)
    · cases hs
  · cases hs
theorem gsp_ok (ro : Nat → Option (List Value)) : ∀ args H r H', pure? gspP args H = some (r, H') → HSound1 Tryd.prog ro 9 args H r H' := by
  refine pure_ok (fun us c hs => Fs.ro ?_ ro) (has_fn (by kernel_rfl))
  unfold gspP at hs
  split at hs
  · split at hs
    · rename_i ha
      have ha := agg_two ha
      subst ha
      unfold okG at hs
      simp only [Option.some.injEq, Prod.mk.injEq, decide_eq_true_eq] at hs
      obtain ⟨rfl, h1, h2, h3, h4, h5⟩ := hs
      rename_i B C
      obtain ⟨B, rfl⟩ := Int.eq_ofNat_of_zero_le h1
      obtain ⟨C, rfl⟩ := Int.eq_ofNat_of_zero_le h3
      cases C with
      | zero =>
        obtain rfl : B = 0 := by have := h5 rfl; omega
        exact fs_gsplit0 _
      | succ n => exact fs_gsplit B n _ (by omega) (by omega)
    · cases hs
  · cases hs
theorem glv_ok (ro : Nat → Option (List Value)) : ∀ args H r H', pure? glvP args H = some (r, H') → HSound1 Tryd.prog ro 10 args H r H' := by
  refine pure_ok (fun us c hs => Fs.ro ?_ ro) (has_fn (by kernel_rfl))
  unfold glvP at hs
  split at hs
  · split at hs
    · rename_i ha
      have ha := agg_two ha
      subst ha
      unfold okG at hs
      simp only [Option.some.injEq, Prod.mk.injEq, decide_eq_true_eq] at hs
      obtain ⟨rfl, h1, h2, h3, h4, h5⟩ := hs
      rename_i B C
      obtain ⟨B, rfl⟩ := Int.eq_ofNat_of_zero_le h1
      obtain ⟨C, rfl⟩ := Int.eq_ofNat_of_zero_le h3
      exact fs_glev B C (by omega) (by omega)
    · cases hs
  · cases hs
noncomputable def prG : FuncId → Option (List AV → AH → Ans) := fun g => match g with
  | 13 => some (pure? spP)
  | 12 => some (pure? ofQ)
  | 7 => some (pure? rtP)
  | 6 => some (pure? nwP)
  | 8 => some (pure? gofP)
  | 9 => some (pure? gspP)
  | 10 => some (pure? glvP)
  | 11 => some (pure? awakeS)
  | _ => none
theorem knownG : Known nro prG := by
  intro g p h
  unfold prG at h
  split at h
  · cases h; exact sp_ok _
  · cases h; exact of_ok _
  · cases h; exact right_ok _
  · cases h; exact new_ok _
  · cases h; exact gof_ok _
  · cases h; exact gsp_ok _
  · cases h; exact glv_ok _
  · cases h; exact awake_ok8
  · cases h
end Go.Proofs.YtkcaaanmlaodkaaDoor.AE
namespace Go.Proofs.YtkcaaanmlaodkaaDoor.AE
open Go.RowKit
def ro05 (tS : TypeId) (pS : Value) (tR : TypeId) (pR : Value) : Nat → Option (List Value) := fun b => match b with
  | 3 => some (Lib.pow10Tab.map fun z => Value.int .u64 z)
  | 1 => some [.iface tS pS]
  | 2 => some [.iface tR pR]
  | _ => none
section
variable {tS : TypeId} {pS : Value} {tR : TypeId} {pR : Value} {W : World}
theorem ro_tab (h : Ro (ro05 tS pS tR pR) (G0 W) W) : Lib.TabIs Tryd.prog W "internal/strconv.uint64pow10" .u64 Lib.pow10Tab ∧ 3 < W.heap.size := by
  obtain ⟨h1, _, t, h3⟩ := h 3 _ rfl
  refine ⟨?_, ?_⟩
  · unfold Lib.TabIs World.var?
    rw [show Tryd.prog.globalNamed "internal/strconv.uint64pow10" = some 3 by kernel_rfl]
    simp [h3]
  · by_cases hlt : 3 < W.heap.size
    · exact hlt
    · rw [Array.getElem?_eq_none (by omega)] at h3; cases h3
def textP : List Value → Option (Value × Bool) := fun us => match us with
  | [.int .i64 n] => some (.string ⟨(Lib.itoa n).toArray⟩, decide (-9223372036854775808 ≤ n ∧ n ≤ 9223372036854775807))
  | _ => none
theorem text_ok : ∀ args H r H', pure? textP args H = some (r, H') → HSound1 Tryd.prog (ro05 tS pS tR pR) 21 args H r H' := by
  refine pure_of_calls (has_fn (by kernel_rfl)) fun us c h W hR => ?_
  unfold textP at h
  split at h
  · simp only [Option.some.injEq, Prod.mk.injEq, decide_eq_true_eq] at h
    obtain ⟨rfl, h0, h1⟩ := h
    exact dtext _ h0 h1 W (ro_tab hR).1
  · cases h
def dpX (s : ByteArray) : Int := match Lib.atoiAll s.data.toList with
  | .ok v => if Lib.itoa v = s.data.toList then v else 0
  | _ => 0
def dpY (s : ByteArray) : Int := match Lib.atoiAll s.data.toList with
  | .ok v => if Lib.itoa v = s.data.toList then 0 else 2
  | _ => 2
def parseP : List Value → Option (Value × Bool) := fun us => match us with
  | [.string s] => some (.tuple #[.int .i64 (dpX s), .int .i64 (dpY s)], decide (s.size ≤ 100000))
  | _ => none
theorem parse_ok : ∀ args H r H', pure? parseP args H = some (r, H') → HSound1 Tryd.prog (ro05 tS pS tR pR) 24 args H r H' := by
  refine pure_of_calls (has_fn (by kernel_rfl)) fun us c h W hR => ?_
  unfold parseP at h
  split at h
  · rename_i s
    simp only [Option.some.injEq, Prod.mk.injEq, decide_eq_true_eq] at h
    obtain ⟨rfl, hs⟩ := h
    obtain ⟨hT, hB⟩ := ro_tab hR
    have hS := ((hR 1 _ rfl).1 0 _ rfl).2
    have hE := ((hR 2 _ rfl).1 0 _ rfl).2
    unfold dpX dpY
    rcases ha : Lib.atoiAll s.data.toList with v | _ | _
    · exact dparse_ok s (by omega) v ha W hT hB _ _ (fun h => by simp [h]) (fun h => by simp [h])
    · refine dparse_no s W 0 ((Tryd.strconv_Atoi_syntax s (by omega) ha _ W hS (.inr ⟨_, _, rfl⟩)).mono ?_)
      rintro e w' ⟨N, he, _, _, hb⟩
      exact ⟨N, _, he, hb⟩
    · refine dparse_no s W (Lib.atoiSat s.data.toList) ((Tryd.strconv_Atoi_range s (by omega) ha _ W hE (.inr ⟨_, _, rfl⟩)).mono ?_)
      rintro e w' ⟨N, he, _, _, hb⟩
      exact ⟨N, _, he, hb⟩
  · cases h
end
end Go.Proofs.YtkcaaanmlaodkaaDoor.AE
namespace Go.Proofs.YtkcaaanmlaodkaaDoor.AE
open Go.RowKit
def xA (n : Int) (s : ByteArray) (k : Int) : List AV := [.v (.int .i64 n), .dead, .dead, .v (.string s), .v (.int .i64 k)] ++ List.replicate 28 .dead
theorem x_pre (n : Int) (R : Exit → List AV → AH → Prop) : codeL nro (fun _ => false) (fun _ => none) 5 ((flatten (bodyOf 22)).take 4) ([.v (.int .i64 n)] ++ List.replicate 32 (.v undef)) (hp [] []) (kp [0, 2, 3, 4] R) =
    (bif (n == (0 : Int)) then (some (True ∧ (R Exit.ret [(AV.v (Value.int IntKind.i64 n)), AV.dead, (AV.v (Value.string (ByteArray.mk #[(@OfNat.ofNat UInt8 (48 : Nat) (@UInt8.instOfNat 48))]))), (AV.v (Value.tuple (Array.mk (@List.nil Go.Value)))), (AV.v (Value.tuple (Array.mk (@List.nil Go.Value)))), AV.dead, AV.dead, AV.dead, AV.dead, AV.dead, AV.dead, AV.dead, AV.dead, AV.dead, AV.dead, AV.dead, AV.dead, AV.dead, AV.dead, AV.dead, AV.dead, AV.dead, AV.dead, AV.dead, AV.dead, AV.dead, AV.dead, AV.dead, AV.dead, AV.dead, AV.dead, AV.dead, AV.dead] (AH.mk (@List.nil (Prod Go.TypeId (List AV))) (@List.nil Nat) (0 : Nat) (0 : Nat) true (@List.nil (Prod Nat Bool)) True)))) else (some (True ∧ (R Exit.normal [(AV.v (Value.int IntKind.i64 n)), AV.dead, (AV.v (Value.string (ByteArray.mk (Array.mk (@List.nil UInt8))))), (AV.v (Value.string (ByteArray.mk (Array.mk (@List.nil UInt8))))), (AV.v (Value.int IntKind.i64 n)), AV.dead, AV.dead, AV.dead, AV.dead, AV.dead, AV.dead, AV.dead, AV.dead, AV.dead, AV.dead, AV.dead, AV.dead, AV.dead, AV.dead, AV.dead, AV.dead, AV.dead, AV.dead, AV.dead, AV.dead, AV.dead, AV.dead, AV.dead, AV.dead, AV.dead, AV.dead, AV.dead, AV.dead] (AH.mk (@List.nil (Prod Go.TypeId (List AV))) (@List.nil Nat) (0 : Nat) (0 : Nat) true (@List.nil (Prod Nat Bool)) True))))) := by kernel_rfl
theorem x_in (n k : Int) (s : ByteArray) (R : Exit → List AV → AH → Prop) : code nro (fun _ => false) (fun _ => none) 5 (sub (bodyOf 22) [1, 1, 1, 0, 0, 0]) (xA n s k) (hp [] []) (kp [0, 3, 4] R) =
    (bif (k != (0 : Int)) then (bif (decide ((IntKind.wrap IntKind.i64 (k - (IntKind.wrap IntKind.i64 ((IntKind.wrap IntKind.i64 (Int.tdiv k (10 : Int))) * (10 : Int))))) < (0 : Int))) then (some ((cdb (cdb True (decide (((0 : Int) ≤ (IntKind.wrap IntKind.i64 ((0 : Int) - (IntKind.wrap IntKind.i64 (k - (IntKind.wrap IntKind.i64 ((IntKind.wrap IntKind.i64 (Int.tdiv k (10 : Int))) * (10 : Int)))))))) ∧ (((IntKind.wrap IntKind.i64 ((0 : Int) - (IntKind.wrap IntKind.i64 (k - (IntKind.wrap IntKind.i64 ((IntKind.wrap IntKind.i64 (Int.tdiv k (10 : Int))) * (10 : Int))))))) ≤ (IntKind.wrap IntKind.i64 ((IntKind.wrap IntKind.i64 ((0 : Int) - (IntKind.wrap IntKind.i64 (k - (IntKind.wrap IntKind.i64 ((IntKind.wrap IntKind.i64 (Int.tdiv k (10 : Int))) * (10 : Int))))))) + (1 : Int)))) ∧ ((IntKind.wrap IntKind.i64 ((IntKind.wrap IntKind.i64 ((0 : Int) - (IntKind.wrap IntKind.i64 (k - (IntKind.wrap IntKind.i64 ((IntKind.wrap IntKind.i64 (Int.tdiv k (10 : Int))) * (10 : Int))))))) + (1 : Int))) ≤ (10 : Int)))))) (decide (((ByteArray.size (ByteArray.extract (ByteArray.mk #[(@OfNat.ofNat UInt8 (48 : Nat) (@UInt8.instOfNat 48)), (@OfNat.ofNat UInt8 (49 : Nat) (@UInt8.instOfNat 49)), (@OfNat.ofNat UInt8 (50 : Nat) (@UInt8.instOfNat 50)), (@OfNat.ofNat UInt8 (51 : Nat) (@UInt8.instOfNat 51)), (@OfNat.ofNat UInt8 (52 : Nat) (@UInt8.instOfNat 52)), (@OfNat.ofNat UInt8 (53 : Nat) (@UInt8.instOfNat 53)), (@OfNat.ofNat UInt8 (54 : Nat) (@UInt8.instOfNat 54)), (@OfNat.ofNat UInt8 (55 : Nat) (@UInt8.instOfNat 55)), (@OfNat.ofNat UInt8 (56 : Nat) (@UInt8.instOfNat 56)), (@OfNat.ofNat UInt8 (57 : Nat) (@UInt8.instOfNat 57))]) (Int.toNat (IntKind.wrap IntKind.i64 ((0 : Int) - (IntKind.wrap IntKind.i64 (k - (IntKind.wrap IntKind.i64 ((IntKind.wrap IntKind.i64 (Int.tdiv k (10 : Int))) * (10 : Int)))))))) (Int.toNat (IntKind.wrap IntKind.i64 ((IntKind.wrap IntKind.i64 ((0 : Int) - (IntKind.wrap IntKind.i64 (k - (IntKind.wrap IntKind.i64 ((IntKind.wrap IntKind.i64 (Int.tdiv k (10 : Int))) * (10 : Int))))))) + (1 : Int)))))) + (ByteArray.size s)) ≤ (9223372036854775807 : Nat)))) ∧ (R Exit.normal [(AV.v (Value.int IntKind.i64 n)), AV.dead, AV.dead, (AV.v (Value.string ((ByteArray.extract (ByteArray.mk #[(@OfNat.ofNat UInt8 (48 : Nat) (@UInt8.instOfNat 48)), (@OfNat.ofNat UInt8 (49 : Nat) (@UInt8.instOfNat 49)), (@OfNat.ofNat UInt8 (50 : Nat) (@UInt8.instOfNat 50)), (@OfNat.ofNat UInt8 (51 : Nat) (@UInt8.instOfNat 51)), (@OfNat.ofNat UInt8 (52 : Nat) (@UInt8.instOfNat 52)), (@OfNat.ofNat UInt8 (53 : Nat) (@UInt8.instOfNat 53)), (@OfNat.ofNat UInt8 (54 : Nat) (@UInt8.instOfNat 54)), (@OfNat.ofNat UInt8 (55 : Nat) (@UInt8.instOfNat 55)), (@OfNat.ofNat UInt8 (56 : Nat) (@UInt8.instOfNat 56)), (@OfNat.ofNat UInt8 (57 : Nat) (@UInt8.instOfNat 57))]) (Int.toNat (IntKind.wrap IntKind.i64 ((0 : Int) - (IntKind.wrap IntKind.i64 (k - (IntKind.wrap IntKind.i64 ((IntKind.wrap IntKind.i64 (Int.tdiv k (10 : Int))) * (10 : Int)))))))) (Int.toNat (IntKind.wrap IntKind.i64 ((IntKind.wrap IntKind.i64 ((0 : Int) - (IntKind.wrap IntKind.i64 (k - (IntKind.wrap IntKind.i64 ((IntKind.wrap IntKind.i64 (Int.tdiv k (10 : Int))) * (10 : Int))))))) + (1 : Int))))) ++ s))), (AV.v (Value.int IntKind.i64 (IntKind.wrap IntKind.i64 (Int.tdiv k (10 : Int))))), AV.dead, AV.dead, AV.dead, AV.dead, AV.dead, AV.dead, AV.dead, AV.dead, AV.dead, AV.dead, AV.dead, AV.dead, AV.dead, AV.dead, AV.dead, AV.dead, AV.dead, AV.dead, AV.dead, AV.dead, AV.dead, AV.dead, AV.dead, AV.dead, AV.dead, AV.dead, AV.dead, AV.dead] (AH.mk (@List.nil (Prod Go.TypeId (List AV))) (@List.nil Nat) (0 : Nat) (0 : Nat) true (@List.nil (Prod Nat Bool)) True)))) else (some ((cdb (cdb True (decide (((0 : Int) ≤ (IntKind.wrap IntKind.i64 (k - (IntKind.wrap IntKind.i64 ((IntKind.wrap IntKind.i64 (Int.tdiv k (10 : Int))) * (10 : Int)))))) ∧ (((IntKind.wrap IntKind.i64 (k - (IntKind.wrap IntKind.i64 ((IntKind.wrap IntKind.i64 (Int.tdiv k (10 : Int))) * (10 : Int))))) ≤ (IntKind.wrap IntKind.i64 ((IntKind.wrap IntKind.i64 (k - (IntKind.wrap IntKind.i64 ((IntKind.wrap IntKind.i64 (Int.tdiv k (10 : Int))) * (10 : Int))))) + (1 : Int)))) ∧ ((IntKind.wrap IntKind.i64 ((IntKind.wrap IntKind.i64 (k - (IntKind.wrap IntKind.i64 ((IntKind.wrap IntKind.i64 (Int.tdiv k (10 : Int))) * (10 : Int))))) + (1 : Int))) ≤ (10 : Int)))))) (decide (((ByteArray.size (ByteArray.extract (ByteArray.mk #[(@OfNat.ofNat UInt8 (48 : Nat) (@UInt8.instOfNat 48)), (@OfNat.ofNat UInt8 (49 : Nat) (@UInt8.instOfNat 49)), (@OfNat.ofNat UInt8 (50 : Nat) (@UInt8.instOfNat 50)), (@OfNat.ofNat UInt8 (51 : Nat) (@UInt8.instOfNat 51)), (@OfNat.ofNat UInt8 (52 : Nat) (@UInt8.instOfNat 52)), (@OfNat.ofNat UInt8 (53 : Nat) (@UInt8.instOfNat 53)), (@OfNat.ofNat UInt8 (54 : Nat) (@UInt8.instOfNat 54)), (@OfNat.ofNat UInt8 (55 : Nat) (@UInt8.instOfNat 55)), (@OfNat.ofNat UInt8 (56 : Nat) (@UInt8.instOfNat 56)), (@OfNat.ofNat UInt8 (57 : Nat) (@UInt8.instOfNat 57))]) (Int.toNat (IntKind.wrap IntKind.i64 (k - (IntKind.wrap IntKind.i64 ((IntKind.wrap IntKind.i64 (Int.tdiv k (10 : Int))) * (10 : Int)))))) (Int.toNat (IntKind.wrap IntKind.i64 ((IntKind.wrap IntKind.i64 (k - (IntKind.wrap IntKind.i64 ((IntKind.wrap IntKind.i64 (Int.tdiv k (10 : Int))) * (10 : Int))))) + (1 : Int)))))) + (ByteArray.size s)) ≤ (9223372036854775807 : Nat)))) ∧ (R Exit.normal [(AV.v (Value.int IntKind.i64 n)), AV.dead, AV.dead, (AV.v (Value.string ((ByteArray.extract (ByteArray.mk #[(@OfNat.ofNat UInt8 (48 : Nat) (@UInt8.instOfNat 48)), (@OfNat.ofNat UInt8 (49 : Nat) (@UInt8.instOfNat 49)), (@OfNat.ofNat UInt8 (50 : Nat) (@UInt8.instOfNat 50)), (@OfNat.ofNat UInt8 (51 : Nat) (@UInt8.instOfNat 51)), (@OfNat.ofNat UInt8 (52 : Nat) (@UInt8.instOfNat 52)), (@OfNat.ofNat UInt8 (53 : Nat) (@UInt8.instOfNat 53)), (@OfNat.ofNat UInt8 (54 : Nat) (@UInt8.instOfNat 54)), (@OfNat.ofNat UInt8 (55 : Nat) (@UInt8.instOfNat 55)), (@OfNat.ofNat UInt8 (56 : Nat) (@UInt8.instOfNat 56)), (@OfNat.ofNat UInt8 (57 : Nat) (@UInt8.instOfNat 57))]) (Int.toNat (IntKind.wrap IntKind.i64 (k - (IntKind.wrap IntKind.i64 ((IntKind.wrap IntKind.i64 (Int.tdiv k (10 : Int))) * (10 : Int)))))) (Int.toNat (IntKind.wrap IntKind.i64 ((IntKind.wrap IntKind.i64 (k - (IntKind.wrap IntKind.i64 ((IntKind.wrap IntKind.i64 (Int.tdiv k (10 : Int))) * (10 : Int))))) + (1 : Int))))) ++ s))), (AV.v (Value.int IntKind.i64 (IntKind.wrap IntKind.i64 (Int.tdiv k (10 : Int))))), AV.dead, AV.dead, AV.dead, AV.dead, AV.dead, AV.dead, AV.dead, AV.dead, AV.dead, AV.dead, AV.dead, AV.dead, AV.dead, AV.dead, AV.dead, AV.dead, AV.dead, AV.dead, AV.dead, AV.dead, AV.dead, AV.dead, AV.dead, AV.dead, AV.dead, AV.dead, AV.dead, AV.dead] (AH.mk (@List.nil (Prod Go.TypeId (List AV))) (@List.nil Nat) (0 : Nat) (0 : Nat) true (@List.nil (Prod Nat Bool)) True))))) else (some (True ∧ (R (Exit.exit (0 : Nat)) [(AV.v (Value.int IntKind.i64 n)), AV.dead, AV.dead, (AV.v (Value.string s)), (AV.v (Value.int IntKind.i64 k)), AV.dead, AV.dead, AV.dead, AV.dead, AV.dead, AV.dead, AV.dead, AV.dead, AV.dead, AV.dead, AV.dead, AV.dead, AV.dead, AV.dead, AV.dead, AV.dead, AV.dead, AV.dead, AV.dead, AV.dead, AV.dead, AV.dead, AV.dead, AV.dead, AV.dead, AV.dead, AV.dead, AV.dead] (AH.mk (@List.nil (Prod Go.TypeId (List AV))) (@List.nil Nat) (0 : Nat) (0 : Nat) true (@List.nil (Prod Nat Bool)) True))))) := by kernel_rfl
theorem x_post (n k : Int) (s : ByteArray) (R : Exit → List AV → AH → Prop) : codeL nro (fun _ => false) (fun _ => none) 5 ((flatten (bodyOf 22)).drop 5) (xA n s k) (hp [] []) (kp [2] R) =
    (bif (decide (n < (0 : Int))) then (some ((cdb True (decide (((1 : Nat) + (ByteArray.size s)) ≤ (9223372036854775807 : Nat)))) ∧ (R Exit.ret [AV.dead, AV.dead, (AV.v (Value.string ((ByteArray.mk #[(@OfNat.ofNat UInt8 (45 : Nat) (@UInt8.instOfNat 45))]) ++ s))), AV.dead, AV.dead, AV.dead, AV.dead, AV.dead, AV.dead, AV.dead, AV.dead, AV.dead, AV.dead, AV.dead, AV.dead, AV.dead, AV.dead, AV.dead, AV.dead, AV.dead, AV.dead, AV.dead, AV.dead, AV.dead, AV.dead, AV.dead, AV.dead, AV.dead, AV.dead, AV.dead, AV.dead, AV.dead, AV.dead] (AH.mk (@List.nil (Prod Go.TypeId (List AV))) (@List.nil Nat) (0 : Nat) (0 : Nat) true (@List.nil (Prod Nat Bool)) True)))) else (some (True ∧ (R Exit.ret [AV.dead, AV.dead, (AV.v (Value.string s)), AV.dead, AV.dead, AV.dead, AV.dead, AV.dead, AV.dead, AV.dead, AV.dead, AV.dead, AV.dead, AV.dead, AV.dead, AV.dead, AV.dead, AV.dead, AV.dead, AV.dead, AV.dead, AV.dead, AV.dead, AV.dead, AV.dead, AV.dead, AV.dead, AV.dead, AV.dead, AV.dead, AV.dead, AV.dead, AV.dead] (AH.mk (@List.nil (Prod Go.TypeId (List AV))) (@List.nil Nat) (0 : Nat) (0 : Nat) true (@List.nil (Prod Nat Bool)) True))))) := by kernel_rfl
end Go.Proofs.YtkcaaanmlaodkaaDoor.AE
namespace Go.Proofs.YtkcaaanmlaodkaaDoor.AE
open Go.RowKit
theorem tdiv10 (k : Int) : Int.tdiv k 10 = if k < 0 then -((-k) / 10) else k / 10 := by
  split
  · have h : Int.tdiv k 10 = -(Int.tdiv (-k) 10) := by rw [Int.neg_tdiv, Int.neg_neg]
    rw [h, Int.tdiv_eq_ediv_of_nonneg (by omega)]
  · exact Int.tdiv_eq_ediv_of_nonneg (by omega)
def D10 (u : Nat) : List UInt8 := if u = 0 then [] else Lib.decDigits u
theorem D10_step (u : Nat) (h : u ≠ 0) : D10 u = D10 (u / 10) ++ [UInt8.ofNat (48 + u % 10)] := by
  unfold D10
  rw [if_neg h]
  by_cases h10 : u < 10
  · rw [Lib.decDigits, dif_pos h10, if_pos (by omega), Nat.mod_eq_of_lt h10]; rfl
  · rw [Lib.decDigits, dif_neg h10, if_neg (by omega)]
theorem dig : ∀ i, i < 10 → (ByteArray.mk #[48, 49, 50, 51, 52, 53, 54, 55, 56, 57]).extract i (i + 1) = ⟨#[UInt8.ofNat (48 + i)]⟩ := by decide +kernel
theorem sl_rt : slotsOf 22 = 33 := by kernel_rfl
theorem re_rt : resultsOf 22 = [.tmp 2] := by kernel_rfl
theorem fl_rt : (flatten (bodyOf 22)).drop 4 = .block 0 (.loop (sub (bodyOf 22) [1, 1, 1, 0, 0, 0])) :: (flatten (bodyOf 22)).drop 5 := by kernel_rfl
theorem D10_len (u : Nat) : ∀ m, u < 10 ^ m → (D10 u).length ≤ m := by
  induction u using Nat.strongRecOn with
  | _ u ih =>
    intro m hm
    by_cases h : u = 0
    · subst h; exact Nat.zero_le _
    · cases m with
      | zero => exact absurd hm (by simp; omega)
      | succ m =>
        rw [D10_step u h, List.length_append]
        have := ih (u / 10) (by omega) m (by rw [Nat.pow_succ] at hm; omega)
        show (D10 (u / 10)).length + 1 ≤ m + 1
        omega
theorem fs_rtext (n : Int) (h0 : -9223372036854775808 ≤ n) (h1 : n ≤ 9223372036854775807) : Fs Tryd.prog nro 22 [.v (.int .i64 n)] (hp [] []) fun r _ => r = .v (.string ⟨(Lib.itoa n).toArray⟩) := by
  refine Fs.of_body (has_fn (by kernel_rfl)) ?_
  rw [sl_rt, re_rt]
  refine Tr.of_flat (Trl.split 4 (Trl.of_code (known_none nro) (ne_nil (by kernel_rfl)) (x_pre n _) (holds_bif (fun h => ⟨trivial, .inr rfl, trivial, ?_⟩) fun h => ⟨trivial, ?_⟩)))
  · have hn : n = 0 := eq_of_beq h
    subst hn
    exact congrArg (fun x => AV.v (.string x)) (by decide +kernel)
  have hn0 : n ≠ 0 := ne_of_beq_false h
  show Trl _ _ ((flatten (bodyOf 22)).drop 4) _ _ _
  rw [fl_rt]
  refine Tr.keepL [0, 3, 4] rfl ?_
  let I : Nat → List AV → AH → Prop := fun m act H => ∃ k s, m = k.natAbs ∧ act = xA n s k ∧ k.natAbs ≤ n.natAbs ∧ D10 n.natAbs = D10 k.natAbs ++ s.data.toList ∧ H = hp [] []
  refine Tr.block (Tr.loop I ?_ (m := n.natAbs) ⟨n, _, rfl, rfl, Nat.le_refl _, by simp, rfl⟩)
  rintro m act H ⟨k, s, rfl, rfl, hkn, hD, rfl⟩
  have hlen : s.size ≤ 20 := by
    have h2 := D10_len n.natAbs 20 (by have : (10 : Nat) ^ 20 = 100000000000000000000 := by decide
                                       omega)
    rw [hD, List.length_append] at h2
    have h3 : s.data.toList.length = s.size := by rw [Array.length_toList]; rfl
    omega
  have hk0 : -9223372036854775808 ≤ k := by omega
  have hk1 : k ≤ 9223372036854775808 := by omega
  have ht := tdiv10 k
  obtain ⟨q, hq⟩ : ∃ q, q = Int.tdiv k 10 := ⟨_, rfl⟩
  obtain ⟨d, hd⟩ : ∃ d, d = k - q * 10 := ⟨_, rfl⟩
  have f1 : q.natAbs = k.natAbs / 10 ∧ d.natAbs = k.natAbs % 10 ∧ -9 ≤ d ∧ d ≤ 9 := by
    rw [← hq] at ht
    split at ht <;> omega
  have body := fun R => x_in n k s R
  have eA : IntKind.wrap .i64 (Int.tdiv k 10) = q := by rw [← hq, IntKind.wrap_i64]; omega
  have eB : IntKind.wrap .i64 (q * 10) = q * 10 := by rw [IntKind.wrap_i64]; omega
  have eC : IntKind.wrap .i64 (k - q * 10) = d := by rw [← hd, IntKind.wrap_i64]; omega
  have eD : IntKind.wrap .i64 (0 - d) = -d := by rw [IntKind.wrap_i64]; omega
  have eE : IntKind.wrap .i64 (d + 1) = d + 1 := by rw [IntKind.wrap_i64]; omega
  have eF : IntKind.wrap .i64 (-d + 1) = -d + 1 := by rw [IntKind.wrap_i64]; omega
  rw [eA, eB, eC, eD, eE, eF] at body
  clear eA eB eC eD eE eF ht
  have step : ∀ i : Nat, i = d.natAbs → k ≠ 0 → D10 n.natAbs = D10 q.natAbs ++ ((ByteArray.mk #[48, 49, 50, 51, 52, 53, 54, 55, 56, 57]).extract i (i + 1) ++ s).data.toList := by
    rintro i hi hk
    rw [dig i (by omega), hD, D10_step k.natAbs (by omega), ← f1.1, ByteArray.data_append, Array.toList_append, List.append_assoc]
    rw [hi, f1.2.1]
  have sz : ∀ i : Nat, i < 10 → ((ByteArray.mk #[48, 49, 50, 51, 52, 53, 54, 55, 56, 57]).extract i (i + 1)).size = 1 := fun i hi => by rw [dig i hi]; rfl
  refine Tr.of_code (known_none nro) (body _) (holds_bif (fun h9 => holds_bif (fun hd9 => ?_) (fun hd9 => ?_)) (fun h9 => ⟨trivial, ?_⟩))
  · have h9 : k ≠ 0 := by simpa using h9
    have hd9 := of_decide_eq_true hd9
    have e1 : Int.toNat (-d) = d.natAbs := by omega
    have e2 : Int.toNat (-d + 1) = d.natAbs + 1 := by omega
    rw [e1, e2]
    refine ⟨?_, q.natAbs, by omega, q, _, rfl, rfl, by omega, step _ rfl h9, rfl⟩
    have hz := sz d.natAbs (by omega)
    with_reducible refine cdb_iff.2 ⟨cdb_iff.2 ⟨trivial, decide_eq_true ?_⟩, decide_eq_true ?_⟩
    · omega
    · exact Nat.le_trans (Nat.add_le_add_right (Nat.le_of_eq hz) s.size) (by omega)
  · have h9 : k ≠ 0 := by simpa using h9
    have hd9 := of_decide_eq_false hd9
    have e1 : Int.toNat d = d.natAbs := by omega
    have e2 : Int.toNat (d + 1) = d.natAbs + 1 := by omega
    rw [e1, e2]
    refine ⟨?_, q.natAbs, by omega, q, _, rfl, rfl, by omega, step _ rfl h9, rfl⟩
    have hz := sz d.natAbs (by omega)
    with_reducible refine cdb_iff.2 ⟨cdb_iff.2 ⟨trivial, decide_eq_true ?_⟩, decide_eq_true ?_⟩
    · omega
    · exact Nat.le_trans (Nat.add_le_add_right (Nat.le_of_eq hz) s.size) (by omega)
  · have h9 : k = 0 := by simpa using h9
    subst h9
    show Trl _ _ ((flatten (bodyOf 22)).drop 5) _ _ _
    have hs : s.data.toList = Lib.decDigits n.natAbs := by
      have : D10 n.natAbs = Lib.decDigits n.natAbs := if_neg (by omega)
      rw [← this, hD]; rfl
    refine Trl.of_code (known_none nro) (ne_nil (by kernel_rfl)) (x_post n 0 s _) (holds_bif (fun hn => ⟨?_, .inr rfl, trivial, ?_⟩) (fun hn => ⟨trivial, .inr rfl, trivial, ?_⟩))
    · with_reducible exact cdb_iff.2 ⟨trivial, decide_eq_true (by omega)⟩
    · have hn := of_decide_eq_true hn
      refine congrArg (fun x => AV.v (.string x)) ?_
      unfold Lib.itoa
      rw [if_pos hn, ← hs]
      apply ByteArray.ext
      apply Array.toList_inj.1
      rw [ByteArray.data_append, Array.toList_append]
      rfl
    · have hn := of_decide_eq_false hn
      refine congrArg (fun x => AV.v (.string x)) ?_
      unfold Lib.itoa
      rw [if_neg hn, show n.toNat = n.natAbs by omega, ← hs]
def rtextP : List Value → Option (Value × Bool) := fun us => match us with
  | [.int .i64 n] => some (.string ⟨(Lib.itoa n).toArray⟩, decide (-9223372036854775808 ≤ n ∧ n ≤ 9223372036854775807))
  | _ => none
theorem rtext_ok (ro : Nat → Option (List Value)) : ∀ args H r H', pure? rtextP args H = some (r, H') → HSound1 Tryd.prog ro 22 args H r H' := by
  refine pure_ok (fun us c hs => Fs.ro ?_ ro) (has_fn (by kernel_rfl))
  unfold rtextP at hs
  split at hs
  · simp only [Option.some.injEq, Prod.mk.injEq, decide_eq_true_eq] at hs
    obtain ⟨rfl, h0, h1⟩ := hs
    exact fs_rtext _ h0 h1
  · cases hs
end Go.Proofs.YtkcaaanmlaodkaaDoor.AE
namespace Go.Proofs.YtkcaaanmlaodkaaDoor.AE
open Go.RowKit
noncomputable def prN : FuncId → Option (List AV → AH → Ans) := fun g => match g with
  | 22 => some (pure? rtextP)
  | _ => none
theorem knownN (ro : Nat → Option (List Value)) : Known ro prN := by
  intro g p h
  unfold prN at h
  split at h
  · cases h; exact rtext_ok _
  · cases h
def pA (s : ByteArray) (f n i : Int) : List AV := [.v (.string s), .dead, .dead, .dead, .v (.int .i64 f), .v (.int .i64 n), .v (.int .i64 i)] ++ List.replicate 53 .dead
theorem p_pre (s : ByteArray) (R : Exit → List AV → AH → Prop) : codeL nro (fun _ => false) prN 5 ((flatten (bodyOf 25)).take 8) ([.v (.string s)] ++ List.replicate 59 (.v undef)) (hp [] []) (kp [0, 2, 3, 4, 5, 6] R) =
    (bif (decide ((0 : Int) < ((ByteArray.size s) : Int))) then (bif (((UInt8.toNat (Array.getD (ByteArray.data s) (0 : Nat) (@OfNat.ofNat UInt8 (0 : Nat) (@UInt8.instOfNat 0)))) : Int) == (45 : Int)) then (bif (((ByteArray.size s) : Int) == (1 : Int)) then (some ((cdb True (decide (((0 : Int) ≤ (0 : Int)) ∧ ((0 : Nat) < (ByteArray.size s))))) ∧ (R Exit.ret [(AV.v (Value.string s)), AV.dead, (AV.v (Value.int IntKind.i64 (0 : Int))), (AV.v (Value.int IntKind.i64 (2 : Int))), (AV.v (Value.int IntKind.i64 (1 : Int))), (AV.v (Value.tuple (Array.mk (@List.nil Go.Value)))), (AV.v (Value.tuple (Array.mk (@List.nil Go.Value)))), AV.dead, AV.dead, AV.dead, AV.dead, AV.dead, AV.dead, AV.dead, AV.dead, AV.dead, AV.dead, AV.dead, AV.dead, AV.dead, AV.dead, AV.dead, AV.dead, AV.dead, AV.dead, AV.dead, AV.dead, AV.dead, AV.dead, AV.dead, AV.dead, AV.dead, AV.dead, AV.dead, AV.dead, AV.dead, AV.dead, AV.dead, AV.dead, AV.dead, AV.dead, AV.dead, AV.dead, AV.dead, AV.dead, AV.dead, AV.dead, AV.dead, AV.dead, AV.dead, AV.dead, AV.dead, AV.dead, AV.dead, AV.dead, AV.dead, AV.dead, AV.dead, AV.dead, AV.dead] (AH.mk (@List.nil (Prod Go.TypeId (List AV))) (@List.nil Nat) (0 : Nat) (0 : Nat) true (@List.nil (Prod Nat Bool)) True)))) else (bif (decide ((20 : Int) < ((ByteArray.size s) : Int))) then (some ((cdb True (decide (((0 : Int) ≤ (0 : Int)) ∧ ((0 : Nat) < (ByteArray.size s))))) ∧ (R Exit.ret [(AV.v (Value.string s)), AV.dead, (AV.v (Value.int IntKind.i64 (0 : Int))), (AV.v (Value.int IntKind.i64 (2 : Int))), (AV.v (Value.int IntKind.i64 (1 : Int))), (AV.v (Value.tuple (Array.mk (@List.nil Go.Value)))), (AV.v (Value.tuple (Array.mk (@List.nil Go.Value)))), AV.dead, AV.dead, AV.dead, AV.dead, AV.dead, AV.dead, AV.dead, AV.dead, AV.dead, AV.dead, AV.dead, AV.dead, AV.dead, AV.dead, AV.dead, AV.dead, AV.dead, AV.dead, AV.dead, AV.dead, AV.dead, AV.dead, AV.dead, AV.dead, AV.dead, AV.dead, AV.dead, AV.dead, AV.dead, AV.dead, AV.dead, AV.dead, AV.dead, AV.dead, AV.dead, AV.dead, AV.dead, AV.dead, AV.dead, AV.dead, AV.dead, AV.dead, AV.dead, AV.dead, AV.dead, AV.dead, AV.dead, AV.dead, AV.dead, AV.dead, AV.dead, AV.dead, AV.dead] (AH.mk (@List.nil (Prod Go.TypeId (List AV))) (@List.nil Nat) (0 : Nat) (0 : Nat) true (@List.nil (Prod Nat Bool)) True)))) else (some ((cdb True (decide (((0 : Int) ≤ (0 : Int)) ∧ ((0 : Nat) < (ByteArray.size s))))) ∧ (R Exit.normal [(AV.v (Value.string s)), AV.dead, (AV.v (Value.int IntKind.i64 (0 : Int))), (AV.v (Value.int IntKind.i64 (0 : Int))), (AV.v (Value.int IntKind.i64 (1 : Int))), (AV.v (Value.int IntKind.i64 (0 : Int))), (AV.v (Value.int IntKind.i64 (1 : Int))), AV.dead, AV.dead, AV.dead, AV.dead, AV.dead, AV.dead, AV.dead, AV.dead, AV.dead, AV.dead, AV.dead, AV.dead, AV.dead, AV.dead, AV.dead, AV.dead, AV.dead, AV.dead, AV.dead, AV.dead, AV.dead, AV.dead, AV.dead, AV.dead, AV.dead, AV.dead, AV.dead, AV.dead, AV.dead, AV.dead, AV.dead, AV.dead, AV.dead, AV.dead, AV.dead, AV.dead, AV.dead, AV.dead, AV.dead, AV.dead, AV.dead, AV.dead, AV.dead, AV.dead, AV.dead, AV.dead, AV.dead, AV.dead, AV.dead, AV.dead, AV.dead, AV.dead, AV.dead] (AH.mk (@List.nil (Prod Go.TypeId (List AV))) (@List.nil Nat) (0 : Nat) (0 : Nat) true (@List.nil (Prod Nat Bool)) True)))))) else (bif (((ByteArray.size s) : Int) == (0 : Int)) then (some ((cdb True (decide (((0 : Int) ≤ (0 : Int)) ∧ ((0 : Nat) < (ByteArray.size s))))) ∧ (R Exit.ret [(AV.v (Value.string s)), AV.dead, (AV.v (Value.int IntKind.i64 (0 : Int))), (AV.v (Value.int IntKind.i64 (2 : Int))), (AV.v (Value.int IntKind.i64 (0 : Int))), (AV.v (Value.tuple (Array.mk (@List.nil Go.Value)))), (AV.v (Value.tuple (Array.mk (@List.nil Go.Value)))), AV.dead, AV.dead, AV.dead, AV.dead, AV.dead, AV.dead, AV.dead, AV.dead, AV.dead, AV.dead, AV.dead, AV.dead, AV.dead, AV.dead, AV.dead, AV.dead, AV.dead, AV.dead, AV.dead, AV.dead, AV.dead, AV.dead, AV.dead, AV.dead, AV.dead, AV.dead, AV.dead, AV.dead, AV.dead, AV.dead, AV.dead, AV.dead, AV.dead, AV.dead, AV.dead, AV.dead, AV.dead, AV.dead, AV.dead, AV.dead, AV.dead, AV.dead, AV.dead, AV.dead, AV.dead, AV.dead, AV.dead, AV.dead, AV.dead, AV.dead, AV.dead, AV.dead, AV.dead] (AH.mk (@List.nil (Prod Go.TypeId (List AV))) (@List.nil Nat) (0 : Nat) (0 : Nat) true (@List.nil (Prod Nat Bool)) True)))) else (bif (decide ((19 : Int) < ((ByteArray.size s) : Int))) then (some ((cdb True (decide (((0 : Int) ≤ (0 : Int)) ∧ ((0 : Nat) < (ByteArray.size s))))) ∧ (R Exit.ret [(AV.v (Value.string s)), AV.dead, (AV.v (Value.int IntKind.i64 (0 : Int))), (AV.v (Value.int IntKind.i64 (2 : Int))), (AV.v (Value.int IntKind.i64 (0 : Int))), (AV.v (Value.tuple (Array.mk (@List.nil Go.Value)))), (AV.v (Value.tuple (Array.mk (@List.nil Go.Value)))), AV.dead, AV.dead, AV.dead, AV.dead, AV.dead, AV.dead, AV.dead, AV.dead, AV.dead, AV.dead, AV.dead, AV.dead, AV.dead, AV.dead, AV.dead, AV.dead, AV.dead, AV.dead, AV.dead, AV.dead, AV.dead, AV.dead, AV.dead, AV.dead, AV.dead, AV.dead, AV.dead, AV.dead, AV.dead, AV.dead, AV.dead, AV.dead, AV.dead, AV.dead, AV.dead, AV.dead, AV.dead, AV.dead, AV.dead, AV.dead, AV.dead, AV.dead, AV.dead, AV.dead, AV.dead, AV.dead, AV.dead, AV.dead, AV.dead, AV.dead, AV.dead, AV.dead, AV.dead] (AH.mk (@List.nil (Prod Go.TypeId (List AV))) (@List.nil Nat) (0 : Nat) (0 : Nat) true (@List.nil (Prod Nat Bool)) True)))) else (some ((cdb True (decide (((0 : Int) ≤ (0 : Int)) ∧ ((0 : Nat) < (ByteArray.size s))))) ∧ (R Exit.normal [(AV.v (Value.string s)), AV.dead, (AV.v (Value.int IntKind.i64 (0 : Int))), (AV.v (Value.int IntKind.i64 (0 : Int))), (AV.v (Value.int IntKind.i64 (0 : Int))), (AV.v (Value.int IntKind.i64 (0 : Int))), (AV.v (Value.int IntKind.i64 (0 : Int))), AV.dead, AV.dead, AV.dead, AV.dead, AV.dead, AV.dead, AV.dead, AV.dead, AV.dead, AV.dead, AV.dead, AV.dead, AV.dead, AV.dead, AV.dead, AV.dead, AV.dead, AV.dead, AV.dead, AV.dead, AV.dead, AV.dead, AV.dead, AV.dead, AV.dead, AV.dead, AV.dead, AV.dead, AV.dead, AV.dead, AV.dead, AV.dead, AV.dead, AV.dead, AV.dead, AV.dead, AV.dead, AV.dead, AV.dead, AV.dead, AV.dead, AV.dead, AV.dead, AV.dead, AV.dead, AV.dead, AV.dead, AV.dead, AV.dead, AV.dead, AV.dead, AV.dead, AV.dead] (AH.mk (@List.nil (Prod Go.TypeId (List AV))) (@List.nil Nat) (0 : Nat) (0 : Nat) true (@List.nil (Prod Nat Bool)) True))))))) else (bif (((ByteArray.size s) : Int) == (0 : Int)) then (some (True ∧ (R Exit.ret [(AV.v (Value.string s)), AV.dead, (AV.v (Value.int IntKind.i64 (0 : Int))), (AV.v (Value.int IntKind.i64 (2 : Int))), (AV.v (Value.int IntKind.i64 (0 : Int))), (AV.v (Value.tuple (Array.mk (@List.nil Go.Value)))), (AV.v (Value.tuple (Array.mk (@List.nil Go.Value)))), AV.dead, AV.dead, AV.dead, AV.dead, AV.dead, AV.dead, AV.dead, AV.dead, AV.dead, AV.dead, AV.dead, AV.dead, AV.dead, AV.dead, AV.dead, AV.dead, AV.dead, AV.dead, AV.dead, AV.dead, AV.dead, AV.dead, AV.dead, AV.dead, AV.dead, AV.dead, AV.dead, AV.dead, AV.dead, AV.dead, AV.dead, AV.dead, AV.dead, AV.dead, AV.dead, AV.dead, AV.dead, AV.dead, AV.dead, AV.dead, AV.dead, AV.dead, AV.dead, AV.dead, AV.dead, AV.dead, AV.dead, AV.dead, AV.dead, AV.dead, AV.dead, AV.dead, AV.dead] (AH.mk (@List.nil (Prod Go.TypeId (List AV))) (@List.nil Nat) (0 : Nat) (0 : Nat) true (@List.nil (Prod Nat Bool)) True)))) else (bif (decide ((19 : Int) < ((ByteArray.size s) : Int))) then (some (True ∧ (R Exit.ret [(AV.v (Value.string s)), AV.dead, (AV.v (Value.int IntKind.i64 (0 : Int))), (AV.v (Value.int IntKind.i64 (2 : Int))), (AV.v (Value.int IntKind.i64 (0 : Int))), (AV.v (Value.tuple (Array.mk (@List.nil Go.Value)))), (AV.v (Value.tuple (Array.mk (@List.nil Go.Value)))), AV.dead, AV.dead, AV.dead, AV.dead, AV.dead, AV.dead, AV.dead, AV.dead, AV.dead, AV.dead, AV.dead, AV.dead, AV.dead, AV.dead, AV.dead, AV.dead, AV.dead, AV.dead, AV.dead, AV.dead, AV.dead, AV.dead, AV.dead, AV.dead, AV.dead, AV.dead, AV.dead, AV.dead, AV.dead, AV.dead, AV.dead, AV.dead, AV.dead, AV.dead, AV.dead, AV.dead, AV.dead, AV.dead, AV.dead, AV.dead, AV.dead, AV.dead, AV.dead, AV.dead, AV.dead, AV.dead, AV.dead, AV.dead, AV.dead, AV.dead, AV.dead, AV.dead, AV.dead] (AH.mk (@List.nil (Prod Go.TypeId (List AV))) (@List.nil Nat) (0 : Nat) (0 : Nat) true (@List.nil (Prod Nat Bool)) True)))) else (some (True ∧ (R Exit.normal [(AV.v (Value.string s)), AV.dead, (AV.v (Value.int IntKind.i64 (0 : Int))), (AV.v (Value.int IntKind.i64 (0 : Int))), (AV.v (Value.int IntKind.i64 (0 : Int))), (AV.v (Value.int IntKind.i64 (0 : Int))), (AV.v (Value.int IntKind.i64 (0 : Int))), AV.dead, AV.dead, AV.dead, AV.dead, AV.dead, AV.dead, AV.dead, AV.dead, AV.dead, AV.dead, AV.dead, AV.dead, AV.dead, AV.dead, AV.dead, AV.dead, AV.dead, AV.dead, AV.dead, AV.dead, AV.dead, AV.dead, AV.dead, AV.dead, AV.dead, AV.dead, AV.dead, AV.dead, AV.dead, AV.dead, AV.dead, AV.dead, AV.dead, AV.dead, AV.dead, AV.dead, AV.dead, AV.dead, AV.dead, AV.dead, AV.dead, AV.dead, AV.dead, AV.dead, AV.dead, AV.dead, AV.dead, AV.dead, AV.dead, AV.dead, AV.dead, AV.dead, AV.dead] (AH.mk (@List.nil (Prod Go.TypeId (List AV))) (@List.nil Nat) (0 : Nat) (0 : Nat) true (@List.nil (Prod Nat Bool)) True))))))) := by kernel_rfl
theorem p_in (s : ByteArray) (f n i : Int) (R : Exit → List AV → AH → Prop) : code nro (fun _ => false) prN 5 (sub (bodyOf 25) [1, 1, 1, 1, 1, 0, 1, 0, 0]) (pA s f n i) (hp [] []) (kp [0, 2, 3, 4, 5, 6] R) =
    (bif (decide (i < ((ByteArray.size s) : Int))) then (bif (decide (((UInt8.toNat (Array.getD (ByteArray.data s) (Int.toNat i) (@OfNat.ofNat UInt8 (0 : Nat) (@UInt8.instOfNat 0)))) : Int) < (48 : Int))) then (some ((cdb True (decide (((0 : Int) ≤ i) ∧ ((Int.toNat i) < (ByteArray.size s))))) ∧ (R Exit.ret [(AV.v (Value.string s)), AV.dead, (AV.v (Value.int IntKind.i64 (0 : Int))), (AV.v (Value.int IntKind.i64 (2 : Int))), (AV.v (Value.int IntKind.i64 f)), (AV.v (Value.int IntKind.i64 n)), (AV.v (Value.int IntKind.i64 i)), AV.dead, AV.dead, AV.dead, AV.dead, AV.dead, AV.dead, AV.dead, AV.dead, AV.dead, AV.dead, AV.dead, AV.dead, AV.dead, AV.dead, AV.dead, AV.dead, AV.dead, AV.dead, AV.dead, AV.dead, AV.dead, AV.dead, AV.dead, AV.dead, AV.dead, AV.dead, AV.dead, AV.dead, AV.dead, AV.dead, AV.dead, AV.dead, AV.dead, AV.dead, AV.dead, AV.dead, AV.dead, AV.dead, AV.dead, AV.dead, AV.dead, AV.dead, AV.dead, AV.dead, AV.dead, AV.dead, AV.dead, AV.dead, AV.dead, AV.dead, AV.dead, AV.dead, AV.dead] (AH.mk (@List.nil (Prod Go.TypeId (List AV))) (@List.nil Nat) (0 : Nat) (0 : Nat) true (@List.nil (Prod Nat Bool)) True)))) else (bif (decide ((57 : Int) < ((UInt8.toNat (Array.getD (ByteArray.data s) (Int.toNat i) (@OfNat.ofNat UInt8 (0 : Nat) (@UInt8.instOfNat 0)))) : Int))) then (some ((cdb (cdb True (decide (((0 : Int) ≤ i) ∧ ((Int.toNat i) < (ByteArray.size s))))) (decide (((0 : Int) ≤ i) ∧ ((Int.toNat i) < (ByteArray.size s))))) ∧ (R Exit.ret [(AV.v (Value.string s)), AV.dead, (AV.v (Value.int IntKind.i64 (0 : Int))), (AV.v (Value.int IntKind.i64 (2 : Int))), (AV.v (Value.int IntKind.i64 f)), (AV.v (Value.int IntKind.i64 n)), (AV.v (Value.int IntKind.i64 i)), AV.dead, AV.dead, AV.dead, AV.dead, AV.dead, AV.dead, AV.dead, AV.dead, AV.dead, AV.dead, AV.dead, AV.dead, AV.dead, AV.dead, AV.dead, AV.dead, AV.dead, AV.dead, AV.dead, AV.dead, AV.dead, AV.dead, AV.dead, AV.dead, AV.dead, AV.dead, AV.dead, AV.dead, AV.dead, AV.dead, AV.dead, AV.dead, AV.dead, AV.dead, AV.dead, AV.dead, AV.dead, AV.dead, AV.dead, AV.dead, AV.dead, AV.dead, AV.dead, AV.dead, AV.dead, AV.dead, AV.dead, AV.dead, AV.dead, AV.dead, AV.dead, AV.dead, AV.dead] (AH.mk (@List.nil (Prod Go.TypeId (List AV))) (@List.nil Nat) (0 : Nat) (0 : Nat) true (@List.nil (Prod Nat Bool)) True)))) else (some ((cdb (cdb (cdb True (decide (((0 : Int) ≤ i) ∧ ((Int.toNat i) < (ByteArray.size s))))) (decide (((0 : Int) ≤ i) ∧ ((Int.toNat i) < (ByteArray.size s))))) (decide (((0 : Int) ≤ i) ∧ ((Int.toNat i) < (ByteArray.size s))))) ∧ (R Exit.normal [(AV.v (Value.string s)), AV.dead, AV.dead, AV.dead, (AV.v (Value.int IntKind.i64 f)), (AV.v (Value.int IntKind.i64 (IntKind.wrap IntKind.i64 ((IntKind.wrap IntKind.i64 ((10 : Int) * n)) - (IntKind.wrap IntKind.i64 (IntKind.wrap IntKind.u8 (((UInt8.toNat (Array.getD (ByteArray.data s) (Int.toNat i) (@OfNat.ofNat UInt8 (0 : Nat) (@UInt8.instOfNat 0)))) : Int) - (48 : Int)))))))), (AV.v (Value.int IntKind.i64 (IntKind.wrap IntKind.i64 (i + (1 : Int))))), AV.dead, AV.dead, AV.dead, AV.dead, AV.dead, AV.dead, AV.dead, AV.dead, AV.dead, AV.dead, AV.dead, AV.dead, AV.dead, AV.dead, AV.dead, AV.dead, AV.dead, AV.dead, AV.dead, AV.dead, AV.dead, AV.dead, AV.dead, AV.dead, AV.dead, AV.dead, AV.dead, AV.dead, AV.dead, AV.dead, AV.dead, AV.dead, AV.dead, AV.dead, AV.dead, AV.dead, AV.dead, AV.dead, AV.dead, AV.dead, AV.dead, AV.dead, AV.dead, AV.dead, AV.dead, AV.dead, AV.dead, AV.dead, AV.dead, AV.dead, AV.dead, AV.dead, AV.dead] (AH.mk (@List.nil (Prod Go.TypeId (List AV))) (@List.nil Nat) (0 : Nat) (0 : Nat) true (@List.nil (Prod Nat Bool)) True)))))) else (some (True ∧ (R (Exit.exit (0 : Nat)) [(AV.v (Value.string s)), AV.dead, AV.dead, AV.dead, (AV.v (Value.int IntKind.i64 f)), (AV.v (Value.int IntKind.i64 n)), (AV.v (Value.int IntKind.i64 i)), AV.dead, AV.dead, AV.dead, AV.dead, AV.dead, AV.dead, AV.dead, AV.dead, AV.dead, AV.dead, AV.dead, AV.dead, AV.dead, AV.dead, AV.dead, AV.dead, AV.dead, AV.dead, AV.dead, AV.dead, AV.dead, AV.dead, AV.dead, AV.dead, AV.dead, AV.dead, AV.dead, AV.dead, AV.dead, AV.dead, AV.dead, AV.dead, AV.dead, AV.dead, AV.dead, AV.dead, AV.dead, AV.dead, AV.dead, AV.dead, AV.dead, AV.dead, AV.dead, AV.dead, AV.dead, AV.dead, AV.dead, AV.dead, AV.dead, AV.dead, AV.dead, AV.dead, AV.dead] (AH.mk (@List.nil (Prod Go.TypeId (List AV))) (@List.nil Nat) (0 : Nat) (0 : Nat) true (@List.nil (Prod Nat Bool)) True))))) := by kernel_rfl
theorem p_post (s : ByteArray) (f n i : Int) (R : Exit → List AV → AH → Prop) : codeL nro (fun _ => false) prN 5 ((flatten (bodyOf 25)).drop 9) (pA s f n i) (hp [] []) (kp [2, 3] R) =
    (bif (f == (0 : Int)) then (bif (!((ByteArray.toList (ByteArray.mk (Array.mk (Go.Lib.itoa (IntKind.wrap IntKind.i64 ((0 : Int) - n)))))) == (ByteArray.toList s))) then (some ((cdb True (decide (((-(9223372036854775808 : Int)) ≤ (IntKind.wrap IntKind.i64 ((0 : Int) - n))) ∧ ((IntKind.wrap IntKind.i64 ((0 : Int) - n)) ≤ (9223372036854775807 : Int))))) ∧ (R Exit.ret [AV.dead, AV.dead, (AV.v (Value.int IntKind.i64 (0 : Int))), (AV.v (Value.int IntKind.i64 (2 : Int))), AV.dead, AV.dead, AV.dead, AV.dead, AV.dead, AV.dead, AV.dead, AV.dead, AV.dead, AV.dead, AV.dead, AV.dead, AV.dead, AV.dead, AV.dead, AV.dead, AV.dead, AV.dead, AV.dead, AV.dead, AV.dead, AV.dead, AV.dead, AV.dead, AV.dead, AV.dead, AV.dead, AV.dead, AV.dead, AV.dead, AV.dead, AV.dead, AV.dead, AV.dead, AV.dead, AV.dead, AV.dead, AV.dead, AV.dead, AV.dead, AV.dead, AV.dead, AV.dead, AV.dead, AV.dead, AV.dead, AV.dead, AV.dead, AV.dead, AV.dead, AV.dead, AV.dead, AV.dead, AV.dead, AV.dead, AV.dead] (AH.mk (@List.nil (Prod Go.TypeId (List AV))) (@List.nil Nat) (0 : Nat) (0 : Nat) true (@List.nil (Prod Nat Bool)) True)))) else (some ((cdb True (decide (((-(9223372036854775808 : Int)) ≤ (IntKind.wrap IntKind.i64 ((0 : Int) - n))) ∧ ((IntKind.wrap IntKind.i64 ((0 : Int) - n)) ≤ (9223372036854775807 : Int))))) ∧ (R Exit.ret [AV.dead, AV.dead, (AV.v (Value.int IntKind.i64 (IntKind.wrap IntKind.i64 ((0 : Int) - n)))), (AV.v (Value.int IntKind.i64 (0 : Int))), AV.dead, AV.dead, AV.dead, AV.dead, AV.dead, AV.dead, AV.dead, AV.dead, AV.dead, AV.dead, AV.dead, AV.dead, AV.dead, AV.dead, AV.dead, AV.dead, AV.dead, AV.dead, AV.dead, AV.dead, AV.dead, AV.dead, AV.dead, AV.dead, AV.dead, AV.dead, AV.dead, AV.dead, AV.dead, AV.dead, AV.dead, AV.dead, AV.dead, AV.dead, AV.dead, AV.dead, AV.dead, AV.dead, AV.dead, AV.dead, AV.dead, AV.dead, AV.dead, AV.dead, AV.dead, AV.dead, AV.dead, AV.dead, AV.dead, AV.dead, AV.dead, AV.dead, AV.dead, AV.dead, AV.dead, AV.dead] (AH.mk (@List.nil (Prod Go.TypeId (List AV))) (@List.nil Nat) (0 : Nat) (0 : Nat) true (@List.nil (Prod Nat Bool)) True))))) else (bif (!((ByteArray.toList (ByteArray.mk (Array.mk (Go.Lib.itoa n)))) == (ByteArray.toList s))) then (some ((cdb True (decide (((-(9223372036854775808 : Int)) ≤ n) ∧ (n ≤ (9223372036854775807 : Int))))) ∧ (R Exit.ret [AV.dead, AV.dead, (AV.v (Value.int IntKind.i64 (0 : Int))), (AV.v (Value.int IntKind.i64 (2 : Int))), AV.dead, AV.dead, AV.dead, AV.dead, AV.dead, AV.dead, AV.dead, AV.dead, AV.dead, AV.dead, AV.dead, AV.dead, AV.dead, AV.dead, AV.dead, AV.dead, AV.dead, AV.dead, AV.dead, AV.dead, AV.dead, AV.dead, AV.dead, AV.dead, AV.dead, AV.dead, AV.dead, AV.dead, AV.dead, AV.dead, AV.dead, AV.dead, AV.dead, AV.dead, AV.dead, AV.dead, AV.dead, AV.dead, AV.dead, AV.dead, AV.dead, AV.dead, AV.dead, AV.dead, AV.dead, AV.dead, AV.dead, AV.dead, AV.dead, AV.dead, AV.dead, AV.dead, AV.dead, AV.dead, AV.dead, AV.dead] (AH.mk (@List.nil (Prod Go.TypeId (List AV))) (@List.nil Nat) (0 : Nat) (0 : Nat) true (@List.nil (Prod Nat Bool)) True)))) else (some ((cdb True (decide (((-(9223372036854775808 : Int)) ≤ n) ∧ (n ≤ (9223372036854775807 : Int))))) ∧ (R Exit.ret [AV.dead, AV.dead, (AV.v (Value.int IntKind.i64 n)), (AV.v (Value.int IntKind.i64 (0 : Int))), AV.dead, AV.dead, AV.dead, AV.dead, AV.dead, AV.dead, AV.dead, AV.dead, AV.dead, AV.dead, AV.dead, AV.dead, AV.dead, AV.dead, AV.dead, AV.dead, AV.dead, AV.dead, AV.dead, AV.dead, AV.dead, AV.dead, AV.dead, AV.dead, AV.dead, AV.dead, AV.dead, AV.dead, AV.dead, AV.dead, AV.dead, AV.dead, AV.dead, AV.dead, AV.dead, AV.dead, AV.dead, AV.dead, AV.dead, AV.dead, AV.dead, AV.dead, AV.dead, AV.dead, AV.dead, AV.dead, AV.dead, AV.dead, AV.dead, AV.dead, AV.dead, AV.dead, AV.dead, AV.dead, AV.dead, AV.dead] (AH.mk (@List.nil (Prod Go.TypeId (List AV))) (@List.nil Nat) (0 : Nat) (0 : Nat) true (@List.nil (Prod Nat Bool)) True)))))) := by kernel_rfl
end Go.Proofs.YtkcaaanmlaodkaaDoor.AE
namespace Go.Proofs.YtkcaaanmlaodkaaDoor
namespace De
open Go.Lib
theorem digits_rng (u : Nat) : ∀ c ∈ decDigits u, 48 ≤ c.toNat ∧ c.toNat ≤ 57 := by
  induction u using Nat.strongRecOn with
  | _ u ih =>
    intro c hc
    rw [decDigits] at hc
    have one : ∀ i, i < 10 → 48 ≤ (UInt8.ofNat (48 + i)).toNat ∧ (UInt8.ofNat (48 + i)).toNat ≤ 57 := by decide +kernel
    split at hc
    · rename_i h
      simp only [List.mem_singleton] at hc
      rw [hc]; exact one u h
    · rename_i h
      rw [List.mem_append] at hc
      rcases hc with hc | hc
      · exact ih (u / 10) (by omega) c hc
      · simp only [List.mem_singleton] at hc
        rw [hc]; exact one (u % 10) (by omega)
theorem digits_ne (u : Nat) : decDigits u ≠ [] := by
  rw [decDigits]
  split <;> simp
def stepU (acc : Nat) (c : UInt8) : NumEnd Nat := parseUint10 acc [c]
theorem parse_snoc (c : UInt8) : ∀ (l : List UInt8) (acc a : Nat), parseUint10 acc l = .ok a → parseUint10 acc (l ++ [c]) = parseUint10 a [c]
  | [], acc, a, h => by
    simp only [parseUint10] at h
    injection h with h
    subst h; rfl
  | d :: l, acc, a, h => by
    show parseUint10 acc (d :: (l ++ [c])) = _
    rw [parseUint10] at h ⊢
    split at h
    · rename_i h1
      rw [if_pos h1]
      split at h
      · cases h
      · rename_i h2
        rw [if_neg h2]
        split at h
        · cases h
        · rename_i h3
          rw [if_neg h3]
          exact parse_snoc c l _ a h
    · cases h
theorem one_digit (a i : Nat) (hi : i < 10) (h : a * 10 + i < 18446744073709551616) : parseUint10 a [UInt8.ofNat (48 + i)] = .ok (a * 10 + i) := by
  have e : (UInt8.ofNat (48 + i)).toNat = 48 + i := UInt8.toNat_ofNat_of_lt' (by show 48 + i < 256; omega)
  rw [parseUint10, e, if_pos ⟨by omega, by omega⟩, if_neg (by omega), if_neg (by omega), parseUint10]
  congr 1
  omega
theorem parse_digits (u : Nat) (h : u < 18446744073709551616) : parseUint10 0 (decDigits u) = .ok u := by
  induction u using Nat.strongRecOn with
  | _ u ih =>
    rw [decDigits]
    split
    · rename_i h10
      have := one_digit 0 u h10 (by omega)
      rwa [Nat.zero_mul, Nat.zero_add] at this
    · rename_i h10
      rw [parse_snoc _ _ _ _ (ih (u / 10) (by omega) (by omega)), one_digit _ _ (by omega) (by omega)]
      congr 1
      omega
theorem mag_digits (u : Nat) (h : u < 18446744073709551616) : parseMag (decDigits u) = .ok u := by
  unfold parseMag
  rw [if_neg (digits_ne u)]
  exact parse_digits u h
/-- A number's text has this number. -/
theorem atoi_itoa (n : Int) (h0 : -9223372036854775808 ≤ n) (h1 : n ≤ 9223372036854775807) : atoiAll (itoa n) = .ok n := by
  unfold itoa
  split
  · rename_i hn
    have hm := mag_digits n.natAbs (by omega)
    have e45 : (45 : UInt8).toNat = 45 := rfl
    simp only [atoiAll, e45, or_true, if_true, hm, not_true_eq_false, false_and, if_false, true_and]
    rw [if_neg (by omega)]
    congr 1
    omega
  · rename_i hn
    have hm := mag_digits n.toNat (by omega)
    obtain ⟨c, r, hc⟩ := List.exists_cons_of_ne_nil (digits_ne n.toNat)
    have hr := digits_rng n.toNat c (by rw [hc]; exact List.mem_cons_self)
    rw [hc] at hm ⊢
    have h43 : ¬ c.toNat = 43 := by omega
    have h45 : ¬ c.toNat = 45 := by omega
    simp only [atoiAll, h43, h45, or_self, if_false, hm, not_false_eq_true, true_and, false_and]
    rw [if_neg (by omega)]
    congr 1
    omega
end De
end Go.Proofs.YtkcaaanmlaodkaaDoor
namespace Go.Proofs.YtkcaaanmlaodkaaDoor.AE
open Go.RowKit De
abbrev inR (v : Int) : Prop := -9223372036854775808 ≤ v ∧ v ≤ 9223372036854775807
theorem dp_good {s : ByteArray} {v : Int} (hv : inR v) (h : s.data.toList = Lib.itoa v) : dpX s = v ∧ dpY s = 0 := by
  unfold dpX dpY
  rw [h, atoi_itoa v hv.1 hv.2]
  simp
theorem dp_bad {s : ByteArray} (h : ∀ v, inR v → ¬ s.data.toList = Lib.itoa v) : dpX s = 0 ∧ dpY s = 2 := by
  unfold dpX dpY
  rcases ha : Lib.atoiAll s.data.toList with v | _ | _
  · have hb := Lib.atoiAll_bounds ha
    have hn : ¬ Lib.itoa v = s.data.toList := fun e => h v hb e.symm
    simp [hn]
  · exact ⟨rfl, rfl⟩
  · exact ⟨rfl, rfl⟩
def nfS (n : Int) (c : UInt8) : Int := IntKind.wrap .i64 (IntKind.wrap .i64 (10 * n) - IntKind.wrap .i64 (IntKind.wrap .u8 ((c.toNat : Int) - 48)))
def nf (l : List UInt8) : Int := l.foldl nfS 0
theorem nf_digits (u : Nat) (h : u ≤ 9223372036854775808) : nf (Lib.decDigits u) = -(u : Int) := by
  induction u using Nat.strongRecOn with
  | _ u ih =>
    have one : ∀ (a i : Nat), i < 10 → a * 10 + i ≤ 9223372036854775808 → nfS (-(a : Int)) (UInt8.ofNat (48 + i)) = -((a * 10 + i : Nat) : Int) := by
      intro a i hi ha
      have e : (UInt8.ofNat (48 + i)).toNat = 48 + i := UInt8.toNat_ofNat_of_lt' (by show 48 + i < 256; omega)
      unfold nfS
      rw [e, IntKind.wrap_u8, IntKind.wrap_i64, IntKind.wrap_i64, IntKind.wrap_i64]
      omega
    rw [Lib.decDigits]
    split
    · rename_i h10
      have := one 0 u h10 (by omega)
      rw [Nat.zero_mul, Nat.zero_add] at this
      exact this
    · rename_i h10
      have := ih (u / 10) (by omega) (by omega)
      unfold nf at this ⊢
      rw [List.foldl_append, this]
      show nfS _ _ = _
      rw [one _ _ (by omega) (by omega)]
      congr 2
      omega
/-- The texts of numbers, by their first byte. -/
theorem good_by {s : ByteArray} {v : Int} (hv : inR v) (h : s.data.toList = Lib.itoa v) :
    (s.data.toList.head? = some 45 → ∃ u, u ≤ 9223372036854775808 ∧ s.data.toList = 45 :: Lib.decDigits u ∧ v = -(u : Int)) ∧ (¬ s.data.toList.head? = some 45 → ∃ u, u ≤ 9223372036854775807 ∧ s.data.toList = Lib.decDigits u ∧ v = (u : Int)) := by
  obtain ⟨h0, h1⟩ := hv
  unfold Lib.itoa at h
  split at h
  · rename_i hn
    refine ⟨fun _ => ⟨v.natAbs, by omega, h, by omega⟩, fun hh => absurd (by rw [h]; rfl) hh⟩
  · rename_i hn
    refine ⟨fun hh => ?_, fun _ => ⟨v.toNat, by omega, h, by omega⟩⟩
    exfalso
    rw [h] at hh
    have := digits_rng v.toNat 45 (List.mem_of_mem_head? hh)
    revert this
    decide
theorem digits_len (u : Nat) (h : u ≤ 9223372036854775808) : 1 ≤ (Lib.decDigits u).length ∧ (Lib.decDigits u).length ≤ 19 := by
  refine ⟨List.length_pos_iff.2 (digits_ne u), ?_⟩
  by_cases h0 : u = 0
  · subst h0; decide +kernel
  · have e : D10 u = Lib.decDigits u := if_neg h0
    rw [← e]
    refine D10_len u 19 ?_
    have : (10 : Nat) ^ 19 = 10000000000000000000 := by decide
    omega
end Go.Proofs.YtkcaaanmlaodkaaDoor.AE
namespace Go.Proofs.YtkcaaanmlaodkaaDoor.AE
open Go.RowKit De
theorem arr_getD (s : ByteArray) (i : Nat) : s.data.getD i 0 = s.data.toList.getD i 0 := by
  rw [Array.getD_eq_getD_getElem?, List.getD_eq_getElem?_getD, Array.getElem?_toList]
theorem size_list (s : ByteArray) : s.data.toList.length = s.size := by rw [Array.length_toList]; rfl
theorem good_drop {s : ByteArray} {f : Nat} (hf : (f = 1 ∧ s.data.toList.head? = some 45) ∨ (f = 0 ∧ ¬ s.data.toList.head? = some 45)) {v : Int} (hv : inR v) (h : s.data.toList = Lib.itoa v) :
    ∃ u, u ≤ 9223372036854775808 ∧ s.data.toList.drop f = Lib.decDigits u ∧ v = (if f = 0 then (u : Int) else -(u : Int)) ∧ (f = 0 → u ≤ 9223372036854775807) := by
  obtain ⟨g1, g2⟩ := good_by hv h
  rcases hf with ⟨rfl, hh⟩ | ⟨rfl, hh⟩
  · obtain ⟨u, u1, u2, u3⟩ := g1 hh
    exact ⟨u, u1, by rw [u2]; rfl, u3, fun h => by omega⟩
  · obtain ⟨u, u1, u2, u3⟩ := g2 hh
    exact ⟨u, by omega, u2, u3, fun _ => u1⟩
theorem sl_rp : slotsOf 25 = 60 := by kernel_rfl
theorem re_rp : resultsOf 25 = [.tmp 2, .tmp 3] := by kernel_rfl
theorem fl_rp : (flatten (bodyOf 25)).drop 8 = .block 0 (.loop (sub (bodyOf 25) [1, 1, 1, 1, 1, 0, 1, 0, 0])) :: (flatten (bodyOf 25)).drop 9 := by kernel_rfl
abbrev parQ (s : ByteArray) : Exit → List AV → AH → Prop := fun e a h => (e = .normal ∨ e = .ret) ∧ ansOk (fun r _ => r = .v (.tuple #[.int .i64 (dpX s), .int .i64 (dpY s)])) (resOf Tryd.prog nro [.tmp 2, .tmp 3] a h)
theorem beq_lists (l : List UInt8) (s : ByteArray) : ((⟨l.toArray⟩ : ByteArray).toList == s.toList) = decide (s.data.toList = l) := by
  rw [Bool.eq_iff_iff, beq_iff_eq, decide_eq_true_eq, ByteArray.toList_eq, ByteArray.toList_eq]
  exact ⟨fun h => h.symm, fun h => h.symm⟩
theorem wrap_rng (n : Int) : inR (IntKind.wrap .i64 n) := by
  unfold inR
  rw [IntKind.wrap_i64]
  omega
theorem tr_ploop (s : ByteArray) (hs : s.size ≤ 100000) (f : Nat) (hf : (f = 1 ∧ s.data.toList.head? = some 45) ∨ (f = 0 ∧ ¬ s.data.toList.head? = some 45)) (hfs : f ≤ s.size) :
    Trl Tryd.prog nro ((flatten (bodyOf 25)).drop 8) (pA s f 0 f) (hp [] []) (parQ s) := by
  rw [fl_rp]
  have hlen := size_list s
  have bad : ∀ i, f ≤ i → i < s.size → ¬ (48 ≤ (s.data.toList.getD i 0).toNat ∧ (s.data.toList.getD i 0).toNat ≤ 57) → dpX s = 0 ∧ dpY s = 2 := fun i h1 h2 h3 => dp_bad fun v hv hg => by
    obtain ⟨u, _, u2, _, _⟩ := good_drop hf hv hg
    refine h3 (digits_rng u _ ?_)
    rw [← u2]
    have : s.data.toList.getD i 0 = (s.data.toList.drop f)[i - f]'(by rw [List.length_drop]; omega) := by
      rw [List.getElem_drop, List.getD_eq_getElem?_getD, List.getElem?_eq_getElem (by omega), Option.getD_some]
      congr 1
      omega
    rw [this]
    exact List.getElem_mem _
  let I : Nat → List AV → AH → Prop := fun m act H => ∃ (i : Nat) (n : Int), f ≤ i ∧ i ≤ s.size ∧ m = s.size - i ∧ n = nf ((s.data.toList.drop f).take (i - f)) ∧ act = pA s f n i ∧ H = hp [] []
  refine Tr.block (Tr.loop I ?_ (m := s.size - f) ⟨f, 0, Nat.le_refl _, hfs, rfl, by rw [Nat.sub_self]; rfl, rfl, rfl⟩)
  rintro m act H ⟨i, n, h1, h2, rfl, hn, rfl, rfl⟩
  have body := fun R => p_in s f n i R
  rw [add_one i (by omega), Int.toNat_natCast, arr_getD] at body
  obtain ⟨c, hc⟩ : ∃ c, c = s.data.toList.getD i 0 := ⟨_, rfl⟩
  have cd : i < s.size → decide ((0 : Int) ≤ (i : Int) ∧ i < s.size) = true := fun h => decide_eq_true ⟨Int.natCast_nonneg i, h⟩
  rw [← hc] at body
  have badi := bad i h1
  rw [← hc] at badi
  refine Tr.of_code (knownN nro) (body _) (holds_bif (fun h8 => ?_) (fun h8 => ⟨trivial, ?_⟩))
  · have h8 := of_decide_eq_true h8
    have hlt : i < s.size := by omega
    refine holds_bif (fun ha => ⟨?_, ?_⟩) (fun ha => holds_bif (fun hb => ⟨?_, ?_⟩) (fun hb => ⟨?_, ?_⟩))
    · with_reducible exact cdb_iff.2 ⟨trivial, cd hlt⟩
    · have ha := of_decide_eq_true ha
      obtain ⟨x1, x2⟩ := badi hlt (by omega)
      refine ⟨.inr rfl, trivial, ?_⟩
      show AV.v (.tuple #[.int .i64 0, .int .i64 2]) = _
      rw [x1, x2]
    · with_reducible exact cdb_iff.2 ⟨cdb_iff.2 ⟨trivial, cd hlt⟩, cd hlt⟩
    · have hb := of_decide_eq_true hb
      obtain ⟨x1, x2⟩ := badi hlt (by omega)
      refine ⟨.inr rfl, trivial, ?_⟩
      show AV.v (.tuple #[.int .i64 0, .int .i64 2]) = _
      rw [x1, x2]
    · with_reducible exact cdb_iff.2 ⟨cdb_iff.2 ⟨cdb_iff.2 ⟨trivial, cd hlt⟩, cd hlt⟩, cd hlt⟩
    · refine ⟨s.size - (i + 1), by omega, i + 1, _, by omega, by omega, rfl, ?_, rfl, rfl⟩
      have ht : (s.data.toList.drop f).take (i + 1 - f) = (s.data.toList.drop f).take (i - f) ++ [c] := by
        rw [show i + 1 - f = (i - f) + 1 by omega, List.take_add_one, List.getElem?_drop, show f + (i - f) = i by omega, List.getElem?_eq_getElem (by omega), hc, List.getD_eq_getElem?_getD, List.getElem?_eq_getElem (by omega)]
        rfl
      rw [ht]
      show _ = List.foldl nfS 0 _
      rw [List.foldl_append]
      show _ = nfS (nf _) c
      rw [← hn]
      rfl
  · have h8 := of_decide_eq_false h8
    obtain rfl : i = s.size := by omega
    have hall : (s.data.toList.drop f).take (s.size - f) = s.data.toList.drop f := List.take_of_length_le (by rw [List.length_drop]; omega)
    rw [hall] at hn
    show Trl _ _ ((flatten (bodyOf 25)).drop 9) _ _ _
    have post := fun R => p_post s f n s.size R
    rw [beq_lists, beq_lists] at post
    /- what is at last compared -/
    have fin : ∀ N : Int, inR N → (∀ u : Nat, s.data.toList.drop f = Lib.decDigits u → u ≤ 9223372036854775808 → (f = 0 → u ≤ 9223372036854775807) → N = (if f = 0 then (u : Int) else -(u : Int))) → (¬ s.data.toList = Lib.itoa N → dpX s = 0 ∧ dpY s = 2) ∧ (s.data.toList = Lib.itoa N → dpX s = N ∧ dpY s = 0) := fun N hN hu =>
      ⟨fun hne => dp_bad fun v hv hg => by
        obtain ⟨u, u1, u2, u3, u4⟩ := good_drop hf hv hg
        rw [u3, ← hu u u2 u1 u4] at hg
        exact hne hg, fun he => dp_good hN he⟩
    have hnr : inR n := by
      rw [hn]
      have : ∀ (l : List UInt8) (a : Int), inR a → inR (l.foldl nfS a) := by
        intro l
        induction l with
        | nil => intro a h; exact h
        | cons c l ih => intro a _; exact ih _ (wrap_rng _)
      exact this _ 0 (by unfold inR; omega)
    refine Trl.of_code (knownN nro) (ne_nil (by kernel_rfl)) (post _) (holds_bif (fun h0 => ?_) (fun h0 => ?_))
    · have h0 : (f : Int) = 0 := eq_of_beq h0
      have hf0 : f = 0 := by omega
      have hr := wrap_rng (0 - n)
      obtain ⟨x1, x2⟩ := fin (IntKind.wrap .i64 (0 - n)) hr (fun u hu hu1 hu2 => by
        rw [if_pos hf0, hn, hu, nf_digits u hu1, IntKind.wrap_i64]
        have := hu2 hf0
        omega)
      refine holds_bif (fun he => ⟨?_, .inr rfl, trivial, ?_⟩) (fun he => ⟨?_, .inr rfl, trivial, ?_⟩)
      · with_reducible exact cdb_iff.2 ⟨trivial, decide_eq_true hr⟩
      · obtain ⟨y1, y2⟩ := x1 (by simpa using he)
        show AV.v (.tuple #[.int .i64 0, .int .i64 2]) = _
        rw [y1, y2]
      · with_reducible exact cdb_iff.2 ⟨trivial, decide_eq_true hr⟩
      · obtain ⟨y1, y2⟩ := x2 (by simpa using he)
        show AV.v (.tuple #[.int .i64 (IntKind.wrap .i64 (0 - n)), .int .i64 0]) = _
        rw [y1, y2]
    · have h0 : ¬ (f : Int) = 0 := ne_of_beq_false h0
      have hf0 : ¬ f = 0 := by omega
      obtain ⟨x1, x2⟩ := fin n hnr (fun u hu hu1 hu2 => by
        rw [if_neg hf0, hn, hu, nf_digits u hu1])
      refine holds_bif (fun he => ⟨?_, .inr rfl, trivial, ?_⟩) (fun he => ⟨?_, .inr rfl, trivial, ?_⟩)
      · with_reducible exact cdb_iff.2 ⟨trivial, decide_eq_true hnr⟩
      · obtain ⟨y1, y2⟩ := x1 (by simpa using he)
        show AV.v (.tuple #[.int .i64 0, .int .i64 2]) = _
        rw [y1, y2]
      · with_reducible exact cdb_iff.2 ⟨trivial, decide_eq_true hnr⟩
      · obtain ⟨y1, y2⟩ := x2 (by simpa using he)
        show AV.v (.tuple #[.int .i64 n, .int .i64 0]) = _
        rw [y1, y2]
theorem fs_rparse (s : ByteArray) (hs : s.size ≤ 100000) : Fs Tryd.prog nro 25 [.v (.string s)] (hp [] []) fun r _ => r = .v (.tuple #[.int .i64 (dpX s), .int .i64 (dpY s)]) := by
  refine Fs.of_body (has_fn (by kernel_rfl)) ?_
  rw [sl_rp, re_rp]
  have hlen := size_list s
  have hhead : 0 < s.size → (s.data.toList.head? = some 45 ↔ ((s.data.getD 0 0).toNat : Int) = 45) := fun h => by
    rw [arr_getD]
    cases e : s.data.toList with
    | nil => rw [e] at hlen; simp at hlen; omega
    | cons c r =>
      show some c = some 45 ↔ ((c.toNat : Nat) : Int) = 45
      constructor
      · intro h; cases h; rfl
      · intro h; rw [show c = 45 from UInt8.toNat_inj.1 (by show c.toNat = 45; omega)]
  have short : ∀ f, ((f = 1 ∧ s.data.toList.head? = some 45) ∨ (f = 0 ∧ ¬ s.data.toList.head? = some 45)) → (s.size = f ∨ f + 19 < s.size) → dpX s = 0 ∧ dpY s = 2 := fun f hf hh => dp_bad fun v hv hg => by
    obtain ⟨u, u1, u2, _, _⟩ := good_drop hf hv hg
    have l1 := digits_len u u1
    rw [← u2, List.length_drop, hlen] at l1
    omega
  have ret2 : ∀ f, ((f = 1 ∧ s.data.toList.head? = some 45) ∨ (f = 0 ∧ ¬ s.data.toList.head? = some 45)) → (s.size = f ∨ f + 19 < s.size) → AV.v (.tuple #[.int .i64 0, .int .i64 2]) = AV.v (.tuple #[.int .i64 (dpX s), .int .i64 (dpY s)]) := fun f hf hh => by
    obtain ⟨y1, y2⟩ := short f hf hh
    rw [y1, y2]
  have cd : 0 < s.size → decide ((0 : Int) ≤ 0 ∧ 0 < s.size) = true := fun h => decide_eq_true ⟨by decide, h⟩
  refine Tr.of_flat (Trl.split 8 (Trl.of_code (knownN nro) (ne_nil (by kernel_rfl)) (p_pre s _) (holds_bif (fun h1 => holds_bif (fun h2 => ?_) (fun h2 => ?_)) (fun h1 => ?_))))
  · have h1 := of_decide_eq_true h1
    have hp0 : 0 < s.size := by omega
    have hf : (1 = 1 ∧ s.data.toList.head? = some 45) ∨ (1 = 0 ∧ ¬ s.data.toList.head? = some 45) := .inl ⟨rfl, (hhead hp0).2 (eq_of_beq h2)⟩
    refine holds_bif (fun h3 => ⟨by with_reducible exact cdb_iff.2 ⟨trivial, cd hp0⟩, .inr rfl, trivial, ret2 1 hf (.inl (by have := eq_of_beq h3; omega))⟩) (fun h3 => holds_bif (fun h4 => ⟨by with_reducible exact cdb_iff.2 ⟨trivial, cd hp0⟩, .inr rfl, trivial, ret2 1 hf (.inr (by have := of_decide_eq_true h4; omega))⟩) (fun h4 => ⟨by with_reducible exact cdb_iff.2 ⟨trivial, cd hp0⟩, ?_⟩))
    show Trl _ _ ((flatten (bodyOf 25)).drop 8) _ _ _
    exact Tr.keepL [0, 4, 5, 6] rfl (tr_ploop s hs 1 hf hp0)
  · have h1 := of_decide_eq_true h1
    have hp0 : 0 < s.size := by omega
    have hf : (0 = 1 ∧ s.data.toList.head? = some 45) ∨ (0 = 0 ∧ ¬ s.data.toList.head? = some 45) := .inr ⟨rfl, fun h => ne_of_beq_false h2 ((hhead hp0).1 h)⟩
    refine holds_bif (fun h3 => ⟨by with_reducible exact cdb_iff.2 ⟨trivial, cd hp0⟩, .inr rfl, trivial, ret2 0 hf (.inl (by have := eq_of_beq h3; omega))⟩) (fun h3 => holds_bif (fun h4 => ⟨by with_reducible exact cdb_iff.2 ⟨trivial, cd hp0⟩, .inr rfl, trivial, ret2 0 hf (.inr (by have := of_decide_eq_true h4; omega))⟩) (fun h4 => ⟨by with_reducible exact cdb_iff.2 ⟨trivial, cd hp0⟩, ?_⟩))
    show Trl _ _ ((flatten (bodyOf 25)).drop 8) _ _ _
    exact Tr.keepL [0, 4, 5, 6] rfl (tr_ploop s hs 0 hf (Nat.zero_le _))
  · have h1 := of_decide_eq_false h1
    have hz : s.size = 0 := by omega
    have hnil : s.data.toList = [] := List.eq_nil_of_length_eq_zero (by rw [hlen, hz])
    have hf : (0 = 1 ∧ s.data.toList.head? = some 45) ∨ (0 = 0 ∧ ¬ s.data.toList.head? = some 45) := .inr ⟨rfl, by rw [hnil]; simp⟩
    refine holds_bif (fun h3 => ⟨trivial, .inr rfl, trivial, ret2 0 hf (.inl hz)⟩) (fun h3 => ?_)
    exact absurd (ne_of_beq_false h3) (by rw [hz]; simp)
def rparseP : List Value → Option (Value × Bool) := fun us => match us with
  | [.string s] => some (.tuple #[.int .i64 (dpX s), .int .i64 (dpY s)], decide (s.size ≤ 100000))
  | _ => none
theorem rparse_ok (ro : Nat → Option (List Value)) : ∀ args H r H', pure? rparseP args H = some (r, H') → HSound1 Tryd.prog ro 25 args H r H' := by
  refine pure_ok (fun us c hs => Fs.ro ?_ ro) (has_fn (by kernel_rfl))
  unfold rparseP at hs
  split at hs
  · simp only [Option.some.injEq, Prod.mk.injEq, decide_eq_true_eq] at hs
    obtain ⟨rfl, h⟩ := hs
    exact fs_rparse _ h
  · cases hs
end Go.Proofs.YtkcaaanmlaodkaaDoor.AE
namespace Go.Proofs.YtkcaaanmlaodkaaDoor.AE
open Go.RowKit
noncomputable def prK (T : Int → ByteArray) (P Q : ByteArray → Int) : FuncId → Option (List AV → AH → Ans) := fun g => match g with
  | 13 => some (pure? spP)
  | 12 => some (pure? ofQ)
  | 7 => some (pure? rtP)
  | 6 => some (pure? nwP)
  | 8 => some (pure? gofP)
  | 9 => some (pure? gspP)
  | 10 => some (pure? glvP)
  | 11 => some (pure? awakeS)
  | 34 => some (pure? idxP)
  | 21 => some (pure? fun us => match us with
    | [.int .i64 n] => some (.string (T n), decide (-9223372036854775808 ≤ n ∧ n ≤ 9223372036854775807))
    | _ => none)
  | 22 => some (pure? fun us => match us with
    | [.int .i64 n] => some (.string (T n), decide (-9223372036854775808 ≤ n ∧ n ≤ 9223372036854775807))
    | _ => none)
  | 24 => some (pure? fun us => match us with
    | [.string s] => some (.tuple #[.int .i64 (P s), .int .i64 (Q s)], decide (s.size ≤ 100000))
    | _ => none)
  | 25 => some (pure? fun us => match us with
    | [.string s] => some (.tuple #[.int .i64 (P s), .int .i64 (Q s)], decide (s.size ≤ 100000))
    | _ => none)
  | _ => none
def tx (n : Int) : ByteArray := ⟨(Lib.itoa n).toArray⟩
theorem knownK {tS tR : TypeId} {pS pR : Value} : Known (ro05 tS pS tR pR) (prK tx dpX dpY) := by
  intro g p h
  unfold prK at h
  split at h
  · cases h; exact sp_ok _
  · cases h; exact of_ok _
  · cases h; exact right_ok _
  · cases h; exact new_ok _
  · cases h; exact gof_ok _
  · cases h; exact gsp_ok _
  · cases h; exact glv_ok _
  · cases h; exact fun _ _ _ _ h => HSound1.ro (fun _ _ _ => ro_none _ _) (awake_ok8 _ _ _ _ h)
  · cases h; exact idx_ok _
  · cases h; exact text_ok
  · cases h; exact rtext_ok _
  · cases h; exact parse_ok
  · cases h; exact rparse_ok _
  · cases h
def rpA8 (B C : Int) (s : ByteArray) (i : Int) : List AV := [.v (.int .i64 B), .v (.int .i64 C), .v (.string s)] ++ List.replicate 4 .dead
theorem g_text (tS tR : TypeId) (pS pR : Value) (T : Int → ByteArray) (P Q : ByteArray → Int) (B C n : Int) (Φ : AV → Prop) : callK (ro05 tS pS tR pR) (fun _ => false) (prK T P Q) 6 14 [.v (.agg #[.int .i64 B, .int .i64 C]), .v (.int .i64 n)] (hp [] []) (fun r h => some (h.cd ∧ Φ r)) =
    (bif ((sE B C n) != (0 : Int)) then (some ((cdb True (okG B C)) ∧ (Φ (AV.v (Value.tuple #[(Value.string (ByteArray.mk (Array.mk (@List.nil UInt8)))), (Value.int IntKind.i64 (sE B C n))]))))) else (some ((cdb (cdb (cdb (cdb (cdb True (okG B C)) (decide (((-(9223372036854775808 : Int)) ≤ (sB B C n)) ∧ ((sB B C n) ≤ (9223372036854775807 : Int))))) (decide (((ByteArray.size (T (sB B C n))) + (1 : Nat)) ≤ (9223372036854775807 : Nat)))) (decide (((-(9223372036854775808 : Int)) ≤ (sC B C n)) ∧ ((sC B C n) ≤ (9223372036854775807 : Int))))) (decide (((ByteArray.size ((T (sB B C n)) ++ (ByteArray.mk #[(@OfNat.ofNat UInt8 (46 : Nat) (@UInt8.instOfNat 46))]))) + (ByteArray.size (T (sC B C n)))) ≤ (9223372036854775807 : Nat)))) ∧ (Φ (AV.v (Value.tuple #[(Value.string (((T (sB B C n)) ++ (ByteArray.mk #[(@OfNat.ofNat UInt8 (46 : Nat) (@UInt8.instOfNat 46))])) ++ (T (sC B C n)))), (Value.int IntKind.i64 (0 : Int))])))))) := by kernel_rfl
theorem r_text (tS tR : TypeId) (pS pR : Value) (T : Int → ByteArray) (P Q : ByteArray → Int) (B C n : Int) (Φ : AV → Prop) : callK (ro05 tS pS tR pR) (fun _ => false) (prK T P Q) 6 15 [.v (.int .i64 B), .v (.int .i64 C), .v (.int .i64 n)] (hp [] []) (fun r h => some (h.cd ∧ Φ r)) =
    (bif ((sE B C n) != (0 : Int)) then (some ((cdb True (decide (((0 : Int) ≤ B) ∧ ((B ≤ (8 : Int)) ∧ (((0 : Int) ≤ C) ∧ (C ≤ (16 : Int))))))) ∧ (Φ (AV.v (Value.tuple #[(Value.string (ByteArray.mk (Array.mk (@List.nil UInt8)))), (Value.int IntKind.i64 (sE B C n))]))))) else (some ((cdb (cdb (cdb (cdb (cdb True (decide (((0 : Int) ≤ B) ∧ ((B ≤ (8 : Int)) ∧ (((0 : Int) ≤ C) ∧ (C ≤ (16 : Int))))))) (decide (((-(9223372036854775808 : Int)) ≤ (sB B C n)) ∧ ((sB B C n) ≤ (9223372036854775807 : Int))))) (decide (((ByteArray.size (T (sB B C n))) + (1 : Nat)) ≤ (9223372036854775807 : Nat)))) (decide (((-(9223372036854775808 : Int)) ≤ (sC B C n)) ∧ ((sC B C n) ≤ (9223372036854775807 : Int))))) (decide (((ByteArray.size ((T (sB B C n)) ++ (ByteArray.mk #[(@OfNat.ofNat UInt8 (46 : Nat) (@UInt8.instOfNat 46))]))) + (ByteArray.size (T (sC B C n)))) ≤ (9223372036854775807 : Nat)))) ∧ (Φ (AV.v (Value.tuple #[(Value.string (((T (sB B C n)) ++ (ByteArray.mk #[(@OfNat.ofNat UInt8 (46 : Nat) (@UInt8.instOfNat 46))])) ++ (T (sC B C n)))), (Value.int IntKind.i64 (0 : Int))])))))) := by kernel_rfl
theorem g_parse (tS tR : TypeId) (pS pR : Value) (T : Int → ByteArray) (P Q : ByteArray → Int) (B C : Int) (s : ByteArray) (Φ : AV → Prop) : callK (ro05 tS pS tR pR) (fun _ => false) (prK T P Q) 9 16 [.v (.agg #[.int .i64 B, .int .i64 C]), .v (.string s)] (hp [] []) (fun r h => some (h.cd ∧ Φ r)) =
    (bif ([(Array.getD #[(@OfNat.ofNat UInt8 (46 : Nat) (@UInt8.instOfNat 46))] (0 : Nat) (UInt8.ofBitVec (BitVec.ofFin (Fin.mk (0 : Nat) instInhabitedUInt8._proof_1))))] == (ByteArray.toList s)) then (bif ((Q (ByteArray.extract s (0 : Nat) (0 : Nat))) != (0 : Int)) then (some ((cdb (cdb True (decide (((0 : Int) ≤ (1 : Int)) ∧ (((1 : Int) ≤ ((ByteArray.size s) : Int)) ∧ (((ByteArray.size s) : Int) ≤ ((ByteArray.size s) : Int)))))) (decide ((ByteArray.size (ByteArray.extract s (0 : Nat) (0 : Nat))) ≤ (100000 : Nat)))) ∧ (Φ (AV.v (Value.tuple #[(Value.int IntKind.i64 (0 : Int)), (Value.int IntKind.i64 (Q (ByteArray.extract s (0 : Nat) (0 : Nat))))]))))) else (bif ((Q (ByteArray.extract s (1 : Nat) (Int.toNat ((ByteArray.size s) : Int)))) != (0 : Int)) then (some ((cdb (cdb (cdb True (decide (((0 : Int) ≤ (1 : Int)) ∧ (((1 : Int) ≤ ((ByteArray.size s) : Int)) ∧ (((ByteArray.size s) : Int) ≤ ((ByteArray.size s) : Int)))))) (decide ((ByteArray.size (ByteArray.extract s (0 : Nat) (0 : Nat))) ≤ (100000 : Nat)))) (decide ((ByteArray.size (ByteArray.extract s (1 : Nat) (Int.toNat ((ByteArray.size s) : Int)))) ≤ (100000 : Nat)))) ∧ (Φ (AV.v (Value.tuple #[(Value.int IntKind.i64 (0 : Int)), (Value.int IntKind.i64 (Q (ByteArray.extract s (1 : Nat) (Int.toNat ((ByteArray.size s) : Int)))))]))))) else (some ((cdb (cdb (cdb (cdb True (decide (((0 : Int) ≤ (1 : Int)) ∧ (((1 : Int) ≤ ((ByteArray.size s) : Int)) ∧ (((ByteArray.size s) : Int) ≤ ((ByteArray.size s) : Int)))))) (decide ((ByteArray.size (ByteArray.extract s (0 : Nat) (0 : Nat))) ≤ (100000 : Nat)))) (decide ((ByteArray.size (ByteArray.extract s (1 : Nat) (Int.toNat ((ByteArray.size s) : Int)))) ≤ (100000 : Nat)))) (okG B C)) ∧ (Φ (AV.v (Value.tuple #[(Value.int IntKind.i64 (oN B C (P (ByteArray.extract s (0 : Nat) (0 : Nat))) (P (ByteArray.extract s (1 : Nat) (Int.toNat ((ByteArray.size s) : Int)))))), (Value.int IntKind.i64 (oE B C (P (ByteArray.extract s (0 : Nat) (0 : Nat))) (P (ByteArray.extract s (1 : Nat) (Int.toNat ((ByteArray.size s) : Int))))))]))))))) else (bif (decide ((0 : Int) ≤ (Go.Lib.indexByte (Array.toList (ByteArray.data s)) (UInt8.ofNat (46 : Nat))))) then (bif ((Q (ByteArray.extract s (0 : Nat) (Int.toNat (Go.Lib.indexByte (Array.toList (ByteArray.data s)) (UInt8.ofNat (46 : Nat)))))) != (0 : Int)) then (some ((cdb (cdb (cdb True (decide (((0 : Int) ≤ (0 : Int)) ∧ (((0 : Int) ≤ (Go.Lib.indexByte (Array.toList (ByteArray.data s)) (UInt8.ofNat (46 : Nat)))) ∧ ((Go.Lib.indexByte (Array.toList (ByteArray.data s)) (UInt8.ofNat (46 : Nat))) ≤ ((ByteArray.size s) : Int)))))) (decide (((0 : Int) ≤ (IntKind.wrap IntKind.i64 ((Go.Lib.indexByte (Array.toList (ByteArray.data s)) (UInt8.ofNat (46 : Nat))) + (1 : Int)))) ∧ (((IntKind.wrap IntKind.i64 ((Go.Lib.indexByte (Array.toList (ByteArray.data s)) (UInt8.ofNat (46 : Nat))) + (1 : Int))) ≤ ((ByteArray.size s) : Int)) ∧ (((ByteArray.size s) : Int) ≤ ((ByteArray.size s) : Int)))))) (decide ((ByteArray.size (ByteArray.extract s (0 : Nat) (Int.toNat (Go.Lib.indexByte (Array.toList (ByteArray.data s)) (UInt8.ofNat (46 : Nat)))))) ≤ (100000 : Nat)))) ∧ (Φ (AV.v (Value.tuple #[(Value.int IntKind.i64 (0 : Int)), (Value.int IntKind.i64 (Q (ByteArray.extract s (0 : Nat) (Int.toNat (Go.Lib.indexByte (Array.toList (ByteArray.data s)) (UInt8.ofNat (46 : Nat)))))))]))))) else (bif ((Q (ByteArray.extract s (Int.toNat (IntKind.wrap IntKind.i64 ((Go.Lib.indexByte (Array.toList (ByteArray.data s)) (UInt8.ofNat (46 : Nat))) + (1 : Int)))) (Int.toNat ((ByteArray.size s) : Int)))) != (0 : Int)) then (some ((cdb (cdb (cdb (cdb True (decide (((0 : Int) ≤ (0 : Int)) ∧ (((0 : Int) ≤ (Go.Lib.indexByte (Array.toList (ByteArray.data s)) (UInt8.ofNat (46 : Nat)))) ∧ ((Go.Lib.indexByte (Array.toList (ByteArray.data s)) (UInt8.ofNat (46 : Nat))) ≤ ((ByteArray.size s) : Int)))))) (decide (((0 : Int) ≤ (IntKind.wrap IntKind.i64 ((Go.Lib.indexByte (Array.toList (ByteArray.data s)) (UInt8.ofNat (46 : Nat))) + (1 : Int)))) ∧ (((IntKind.wrap IntKind.i64 ((Go.Lib.indexByte (Array.toList (ByteArray.data s)) (UInt8.ofNat (46 : Nat))) + (1 : Int))) ≤ ((ByteArray.size s) : Int)) ∧ (((ByteArray.size s) : Int) ≤ ((ByteArray.size s) : Int)))))) (decide ((ByteArray.size (ByteArray.extract s (0 : Nat) (Int.toNat (Go.Lib.indexByte (Array.toList (ByteArray.data s)) (UInt8.ofNat (46 : Nat)))))) ≤ (100000 : Nat)))) (decide ((ByteArray.size (ByteArray.extract s (Int.toNat (IntKind.wrap IntKind.i64 ((Go.Lib.indexByte (Array.toList (ByteArray.data s)) (UInt8.ofNat (46 : Nat))) + (1 : Int)))) (Int.toNat ((ByteArray.size s) : Int)))) ≤ (100000 : Nat)))) ∧ (Φ (AV.v (Value.tuple #[(Value.int IntKind.i64 (0 : Int)), (Value.int IntKind.i64 (Q (ByteArray.extract s (Int.toNat (IntKind.wrap IntKind.i64 ((Go.Lib.indexByte (Array.toList (ByteArray.data s)) (UInt8.ofNat (46 : Nat))) + (1 : Int)))) (Int.toNat ((ByteArray.size s) : Int)))))]))))) else (some ((cdb (cdb (cdb (cdb (cdb True (decide (((0 : Int) ≤ (0 : Int)) ∧ (((0 : Int) ≤ (Go.Lib.indexByte (Array.toList (ByteArray.data s)) (UInt8.ofNat (46 : Nat)))) ∧ ((Go.Lib.indexByte (Array.toList (ByteArray.data s)) (UInt8.ofNat (46 : Nat))) ≤ ((ByteArray.size s) : Int)))))) (decide (((0 : Int) ≤ (IntKind.wrap IntKind.i64 ((Go.Lib.indexByte (Array.toList (ByteArray.data s)) (UInt8.ofNat (46 : Nat))) + (1 : Int)))) ∧ (((IntKind.wrap IntKind.i64 ((Go.Lib.indexByte (Array.toList (ByteArray.data s)) (UInt8.ofNat (46 : Nat))) + (1 : Int))) ≤ ((ByteArray.size s) : Int)) ∧ (((ByteArray.size s) : Int) ≤ ((ByteArray.size s) : Int)))))) (decide ((ByteArray.size (ByteArray.extract s (0 : Nat) (Int.toNat (Go.Lib.indexByte (Array.toList (ByteArray.data s)) (UInt8.ofNat (46 : Nat)))))) ≤ (100000 : Nat)))) (decide ((ByteArray.size (ByteArray.extract s (Int.toNat (IntKind.wrap IntKind.i64 ((Go.Lib.indexByte (Array.toList (ByteArray.data s)) (UInt8.ofNat (46 : Nat))) + (1 : Int)))) (Int.toNat ((ByteArray.size s) : Int)))) ≤ (100000 : Nat)))) (okG B C)) ∧ (Φ (AV.v (Value.tuple #[(Value.int IntKind.i64 (oN B C (P (ByteArray.extract s (0 : Nat) (Int.toNat (Go.Lib.indexByte (Array.toList (ByteArray.data s)) (UInt8.ofNat (46 : Nat)))))) (P (ByteArray.extract s (Int.toNat (IntKind.wrap IntKind.i64 ((Go.Lib.indexByte (Array.toList (ByteArray.data s)) (UInt8.ofNat (46 : Nat))) + (1 : Int)))) (Int.toNat ((ByteArray.size s) : Int)))))), (Value.int IntKind.i64 (oE B C (P (ByteArray.extract s (0 : Nat) (Int.toNat (Go.Lib.indexByte (Array.toList (ByteArray.data s)) (UInt8.ofNat (46 : Nat)))))) (P (ByteArray.extract s (Int.toNat (IntKind.wrap IntKind.i64 ((Go.Lib.indexByte (Array.toList (ByteArray.data s)) (UInt8.ofNat (46 : Nat))) + (1 : Int)))) (Int.toNat ((ByteArray.size s) : Int))))))]))))))) else (some (True ∧ (Φ (AV.v (Value.tuple #[(Value.int IntKind.i64 (0 : Int)), (Value.int IntKind.i64 (2 : Int))]))))))) := by kernel_rfl
end Go.Proofs.YtkcaaanmlaodkaaDoor.AE
namespace Go.Proofs.YtkcaaanmlaodkaaDoor.AE
open Go.RowKit
def r8A (B C : Int) (s : ByteArray) (i : Int) : List AV := [.v (.int .i64 B), .v (.int .i64 C), .v (.string s)] ++ List.replicate 5 .dead ++ [.v (.int .i64 i)] ++ List.replicate 42 .dead
theorem r8_pre (tS tR : TypeId) (pS pR : Value) (T : Int → ByteArray) (P Q : ByteArray → Int) (B C : Int) (s : ByteArray) (R : Exit → List AV → AH → Prop) : codeL (ro05 tS pS tR pR) (fun _ => false) (prK T P Q) 6 ((flatten (bodyOf 17)).take 2) ([.v (.int .i64 B), .v (.int .i64 C), .v (.string s)] ++ List.replicate 48 (.v undef)) (hp [] []) (kp [0, 1, 2, 8] R) =
    (some (True ∧ (R Exit.normal [(AV.v (Value.int IntKind.i64 B)), (AV.v (Value.int IntKind.i64 C)), (AV.v (Value.string s)), AV.dead, AV.dead, AV.dead, AV.dead, AV.dead, (AV.v (Value.int IntKind.i64 (0 : Int))), AV.dead, AV.dead, AV.dead, AV.dead, AV.dead, AV.dead, AV.dead, AV.dead, AV.dead, AV.dead, AV.dead, AV.dead, AV.dead, AV.dead, AV.dead, AV.dead, AV.dead, AV.dead, AV.dead, AV.dead, AV.dead, AV.dead, AV.dead, AV.dead, AV.dead, AV.dead, AV.dead, AV.dead, AV.dead, AV.dead, AV.dead, AV.dead, AV.dead, AV.dead, AV.dead, AV.dead, AV.dead, AV.dead, AV.dead, AV.dead, AV.dead, AV.dead] (AH.mk (@List.nil (Prod Go.TypeId (List AV))) (@List.nil Nat) (0 : Nat) (0 : Nat) true (@List.nil (Prod Nat Bool)) True)))) := by kernel_rfl
theorem r8_in (tS tR : TypeId) (pS pR : Value) (T : Int → ByteArray) (P Q : ByteArray → Int) (B C : Int) (s : ByteArray) (i : Int) (R : Exit → List AV → AH → Prop) : code (ro05 tS pS tR pR) (fun _ => false) (prK T P Q) 6 (sub (bodyOf 17) [1, 0, 1, 0, 0]) (r8A B C s i) (hp [] []) (kp [0, 1, 2, 6, 7, 8] R) =
    (bif (decide (i < ((ByteArray.size s) : Int))) then (bif (((UInt8.toNat (Array.getD (ByteArray.data s) (Int.toNat i) (@OfNat.ofNat UInt8 (0 : Nat) (@UInt8.instOfNat 0)))) : Int) != (46 : Int)) then (some ((cdb True (decide (((0 : Int) ≤ i) ∧ ((Int.toNat i) < (ByteArray.size s))))) ∧ (R Exit.normal [(AV.v (Value.int IntKind.i64 B)), (AV.v (Value.int IntKind.i64 C)), (AV.v (Value.string s)), AV.dead, AV.dead, AV.dead, AV.dead, AV.dead, (AV.v (Value.int IntKind.i64 (IntKind.wrap IntKind.i64 (i + (1 : Int))))), AV.dead, AV.dead, AV.dead, AV.dead, AV.dead, AV.dead, AV.dead, AV.dead, AV.dead, AV.dead, AV.dead, AV.dead, AV.dead, AV.dead, AV.dead, AV.dead, AV.dead, AV.dead, AV.dead, AV.dead, AV.dead, AV.dead, AV.dead, AV.dead, AV.dead, AV.dead, AV.dead, AV.dead, AV.dead, AV.dead, AV.dead, AV.dead, AV.dead, AV.dead, AV.dead, AV.dead, AV.dead, AV.dead, AV.dead, AV.dead, AV.dead, AV.dead] (AH.mk (@List.nil (Prod Go.TypeId (List AV))) (@List.nil Nat) (0 : Nat) (0 : Nat) true (@List.nil (Prod Nat Bool)) True)))) else (bif ((Q (ByteArray.extract s (0 : Nat) (Int.toNat i))) != (0 : Int)) then (some ((cdb (cdb (cdb (cdb (cdb True (decide (((0 : Int) ≤ i) ∧ ((Int.toNat i) < (ByteArray.size s))))) (decide (((0 : Int) ≤ (0 : Int)) ∧ (((0 : Int) ≤ i) ∧ (i ≤ ((ByteArray.size s) : Int)))))) (decide ((ByteArray.size (ByteArray.extract s (0 : Nat) (Int.toNat i))) ≤ (100000 : Nat)))) (decide (((0 : Int) ≤ (IntKind.wrap IntKind.i64 (i + (1 : Int)))) ∧ (((IntKind.wrap IntKind.i64 (i + (1 : Int))) ≤ ((ByteArray.size s) : Int)) ∧ (((ByteArray.size s) : Int) ≤ ((ByteArray.size s) : Int)))))) (decide ((ByteArray.size (ByteArray.extract s (Int.toNat (IntKind.wrap IntKind.i64 (i + (1 : Int)))) (Int.toNat ((ByteArray.size s) : Int)))) ≤ (100000 : Nat)))) ∧ (R Exit.ret [(AV.v (Value.int IntKind.i64 B)), (AV.v (Value.int IntKind.i64 C)), (AV.v (Value.string s)), AV.dead, AV.dead, AV.dead, (AV.v (Value.int IntKind.i64 (0 : Int))), (AV.v (Value.int IntKind.i64 (2 : Int))), (AV.v (Value.int IntKind.i64 i)), AV.dead, AV.dead, AV.dead, AV.dead, AV.dead, AV.dead, AV.dead, AV.dead, AV.dead, AV.dead, AV.dead, AV.dead, AV.dead, AV.dead, AV.dead, AV.dead, AV.dead, AV.dead, AV.dead, AV.dead, AV.dead, AV.dead, AV.dead, AV.dead, AV.dead, AV.dead, AV.dead, AV.dead, AV.dead, AV.dead, AV.dead, AV.dead, AV.dead, AV.dead, AV.dead, AV.dead, AV.dead, AV.dead, AV.dead, AV.dead, AV.dead, AV.dead] (AH.mk (@List.nil (Prod Go.TypeId (List AV))) (@List.nil Nat) (0 : Nat) (0 : Nat) true (@List.nil (Prod Nat Bool)) True)))) else (bif ((Q (ByteArray.extract s (Int.toNat (IntKind.wrap IntKind.i64 (i + (1 : Int)))) (Int.toNat ((ByteArray.size s) : Int)))) != (0 : Int)) then (some ((cdb (cdb (cdb (cdb (cdb True (decide (((0 : Int) ≤ i) ∧ ((Int.toNat i) < (ByteArray.size s))))) (decide (((0 : Int) ≤ (0 : Int)) ∧ (((0 : Int) ≤ i) ∧ (i ≤ ((ByteArray.size s) : Int)))))) (decide ((ByteArray.size (ByteArray.extract s (0 : Nat) (Int.toNat i))) ≤ (100000 : Nat)))) (decide (((0 : Int) ≤ (IntKind.wrap IntKind.i64 (i + (1 : Int)))) ∧ (((IntKind.wrap IntKind.i64 (i + (1 : Int))) ≤ ((ByteArray.size s) : Int)) ∧ (((ByteArray.size s) : Int) ≤ ((ByteArray.size s) : Int)))))) (decide ((ByteArray.size (ByteArray.extract s (Int.toNat (IntKind.wrap IntKind.i64 (i + (1 : Int)))) (Int.toNat ((ByteArray.size s) : Int)))) ≤ (100000 : Nat)))) ∧ (R Exit.ret [(AV.v (Value.int IntKind.i64 B)), (AV.v (Value.int IntKind.i64 C)), (AV.v (Value.string s)), AV.dead, AV.dead, AV.dead, (AV.v (Value.int IntKind.i64 (0 : Int))), (AV.v (Value.int IntKind.i64 (2 : Int))), (AV.v (Value.int IntKind.i64 i)), AV.dead, AV.dead, AV.dead, AV.dead, AV.dead, AV.dead, AV.dead, AV.dead, AV.dead, AV.dead, AV.dead, AV.dead, AV.dead, AV.dead, AV.dead, AV.dead, AV.dead, AV.dead, AV.dead, AV.dead, AV.dead, AV.dead, AV.dead, AV.dead, AV.dead, AV.dead, AV.dead, AV.dead, AV.dead, AV.dead, AV.dead, AV.dead, AV.dead, AV.dead, AV.dead, AV.dead, AV.dead, AV.dead, AV.dead, AV.dead, AV.dead, AV.dead] (AH.mk (@List.nil (Prod Go.TypeId (List AV))) (@List.nil Nat) (0 : Nat) (0 : Nat) true (@List.nil (Prod Nat Bool)) True)))) else (some ((cdb (cdb (cdb (cdb (cdb (cdb True (decide (((0 : Int) ≤ i) ∧ ((Int.toNat i) < (ByteArray.size s))))) (decide (((0 : Int) ≤ (0 : Int)) ∧ (((0 : Int) ≤ i) ∧ (i ≤ ((ByteArray.size s) : Int)))))) (decide ((ByteArray.size (ByteArray.extract s (0 : Nat) (Int.toNat i))) ≤ (100000 : Nat)))) (decide (((0 : Int) ≤ (IntKind.wrap IntKind.i64 (i + (1 : Int)))) ∧ (((IntKind.wrap IntKind.i64 (i + (1 : Int))) ≤ ((ByteArray.size s) : Int)) ∧ (((ByteArray.size s) : Int) ≤ ((ByteArray.size s) : Int)))))) (decide ((ByteArray.size (ByteArray.extract s (Int.toNat (IntKind.wrap IntKind.i64 (i + (1 : Int)))) (Int.toNat ((ByteArray.size s) : Int)))) ≤ (100000 : Nat)))) (decide (((0 : Int) ≤ B) ∧ ((B ≤ (8 : Int)) ∧ (((0 : Int) ≤ C) ∧ (C ≤ (16 : Int))))))) ∧ (R Exit.ret [(AV.v (Value.int IntKind.i64 B)), (AV.v (Value.int IntKind.i64 C)), (AV.v (Value.string s)), AV.dead, AV.dead, AV.dead, (AV.v (Value.int IntKind.i64 (oN B C (P (ByteArray.extract s (0 : Nat) (Int.toNat i))) (P (ByteArray.extract s (Int.toNat (IntKind.wrap IntKind.i64 (i + (1 : Int)))) (Int.toNat ((ByteArray.size s) : Int))))))), (AV.v (Value.int IntKind.i64 (oE B C (P (ByteArray.extract s (0 : Nat) (Int.toNat i))) (P (ByteArray.extract s (Int.toNat (IntKind.wrap IntKind.i64 (i + (1 : Int)))) (Int.toNat ((ByteArray.size s) : Int))))))), (AV.v (Value.int IntKind.i64 i)), AV.dead, AV.dead, AV.dead, AV.dead, AV.dead, AV.dead, AV.dead, AV.dead, AV.dead, AV.dead, AV.dead, AV.dead, AV.dead, AV.dead, AV.dead, AV.dead, AV.dead, AV.dead, AV.dead, AV.dead, AV.dead, AV.dead, AV.dead, AV.dead, AV.dead, AV.dead, AV.dead, AV.dead, AV.dead, AV.dead, AV.dead, AV.dead, AV.dead, AV.dead, AV.dead, AV.dead, AV.dead, AV.dead, AV.dead, AV.dead, AV.dead, AV.dead] (AH.mk (@List.nil (Prod Go.TypeId (List AV))) (@List.nil Nat) (0 : Nat) (0 : Nat) true (@List.nil (Prod Nat Bool)) True))))))) else (some (True ∧ (R (Exit.exit (0 : Nat)) [(AV.v (Value.int IntKind.i64 B)), (AV.v (Value.int IntKind.i64 C)), (AV.v (Value.string s)), AV.dead, AV.dead, AV.dead, AV.dead, AV.dead, (AV.v (Value.int IntKind.i64 i)), AV.dead, AV.dead, AV.dead, AV.dead, AV.dead, AV.dead, AV.dead, AV.dead, AV.dead, AV.dead, AV.dead, AV.dead, AV.dead, AV.dead, AV.dead, AV.dead, AV.dead, AV.dead, AV.dead, AV.dead, AV.dead, AV.dead, AV.dead, AV.dead, AV.dead, AV.dead, AV.dead, AV.dead, AV.dead, AV.dead, AV.dead, AV.dead, AV.dead, AV.dead, AV.dead, AV.dead, AV.dead, AV.dead, AV.dead, AV.dead, AV.dead, AV.dead] (AH.mk (@List.nil (Prod Go.TypeId (List AV))) (@List.nil Nat) (0 : Nat) (0 : Nat) true (@List.nil (Prod Nat Bool)) True))))) := by kernel_rfl
theorem r8_post (tS tR : TypeId) (pS pR : Value) (T : Int → ByteArray) (P Q : ByteArray → Int) (B C : Int) (s : ByteArray) (i : Int) (R : Exit → List AV → AH → Prop) : codeL (ro05 tS pS tR pR) (fun _ => false) (prK T P Q) 6 ((flatten (bodyOf 17)).drop 3) (r8A B C s i) (hp [] []) (kp [6, 7] R) =
    (some (True ∧ (R Exit.ret [AV.dead, AV.dead, AV.dead, AV.dead, AV.dead, AV.dead, (AV.v (Value.int IntKind.i64 (0 : Int))), (AV.v (Value.int IntKind.i64 (2 : Int))), AV.dead, AV.dead, AV.dead, AV.dead, AV.dead, AV.dead, AV.dead, AV.dead, AV.dead, AV.dead, AV.dead, AV.dead, AV.dead, AV.dead, AV.dead, AV.dead, AV.dead, AV.dead, AV.dead, AV.dead, AV.dead, AV.dead, AV.dead, AV.dead, AV.dead, AV.dead, AV.dead, AV.dead, AV.dead, AV.dead, AV.dead, AV.dead, AV.dead, AV.dead, AV.dead, AV.dead, AV.dead, AV.dead, AV.dead, AV.dead, AV.dead, AV.dead, AV.dead] (AH.mk (@List.nil (Prod Go.TypeId (List AV))) (@List.nil Nat) (0 : Nat) (0 : Nat) true (@List.nil (Prod Nat Bool)) True)))) := by kernel_rfl
end Go.Proofs.YtkcaaanmlaodkaaDoor.AE
namespace Go.Proofs.YtkcaaanmlaodkaaDoor.AE
open Go.RowKit
theorem ib_at : ∀ {l : List UInt8} {i : Nat}, (46 : UInt8) ∉ l.take i → l[i]? = some 46 → Lib.indexByte l 46 = i
  | [], i, _, h => by simp at h
  | c :: l, 0, _, h => by
    simp at h
    unfold Lib.indexByte
    rw [if_pos (by simp [h])]; rfl
  | c :: l, i + 1, hn, h => by
    simp only [List.take_succ_cons, List.mem_cons, not_or] at hn
    have ih := ib_at hn.2 (by simpa using h)
    unfold Lib.indexByte
    rw [if_neg (by simp; exact fun e => hn.1 e.symm), ih, if_neg (by simp)]
    omega
theorem ib_no : ∀ {l : List UInt8}, (46 : UInt8) ∉ l → Lib.indexByte l 46 = -1
  | [], _ => rfl
  | c :: l, hn => by
    simp only [List.mem_cons, not_or] at hn
    unfold Lib.indexByte
    rw [if_neg (by simp; exact fun e => hn.1 e.symm), ib_no hn.2]
    rfl
theorem ib_le : ∀ l : List UInt8, Lib.indexByte l 46 < l.length ∨ Lib.indexByte l 46 = -1
  | [] => .inr rfl
  | c :: l => by
    have ih := ib_le l
    unfold Lib.indexByte
    split
    · exact .inl (by rw [List.length_cons]; omega)
    · split
      · exact .inr rfl
      · rename_i h
        have : ¬ Lib.indexByte l 46 = -1 := fun e => h (by simp [e])
        exact .inl (by rw [List.length_cons]; omega)
theorem dpY_two (s : ByteArray) (h : ¬ dpY s = 0) : dpY s = 2 := by
  unfold dpY at h ⊢
  split
  · rename_i v hv
    rw [hv] at h
    simp only at h
    split
    · rename_i e; rw [if_pos e] at h; exact absurd rfl h
    · rfl
  · rfl
def lpI (s : ByteArray) : Int := Lib.indexByte s.data.toList 46
def lpG (s : ByteArray) : Bool := decide (0 ≤ lpI s) && decide (dpY (s.extract 0 (lpI s).toNat) = 0) && decide (dpY (s.extract ((lpI s).toNat + 1) s.size) = 0)
def lpX (B C : Int) (s : ByteArray) : Int := if lpG s = true then oN B C (dpX (s.extract 0 (lpI s).toNat)) (dpX (s.extract ((lpI s).toNat + 1) s.size)) else 0
def lpE (B C : Int) (s : ByteArray) : Int := if lpG s = true then oE B C (dpX (s.extract 0 (lpI s).toNat)) (dpX (s.extract ((lpI s).toNat + 1) s.size)) else 2
theorem lp_no {B C : Int} {s : ByteArray} (h : lpG s = false) : lpX B C s = 0 ∧ lpE B C s = 2 := by
  unfold lpX lpE; rw [h]; exact ⟨rfl, rfl⟩
theorem lp_yes {B C : Int} {s : ByteArray} (h : lpG s = true) : lpX B C s = oN B C (dpX (s.extract 0 (lpI s).toNat)) (dpX (s.extract ((lpI s).toNat + 1) s.size)) ∧ lpE B C s = oE B C (dpX (s.extract 0 (lpI s).toNat)) (dpX (s.extract ((lpI s).toNat + 1) s.size)) := by
  unfold lpX lpE; rw [if_pos h, if_pos h]; exact ⟨rfl, rfl⟩
/-- What is known where the point stands. -/
theorem lpG_at {s : ByteArray} {i : Nat} (h : lpI s = i) : lpG s = (decide (dpY (s.extract 0 i) = 0) && decide (dpY (s.extract (i + 1) s.size) = 0)) := by
  unfold lpG
  rw [h, show Int.toNat (i : Int) = i from rfl, decide_eq_true (Int.natCast_nonneg i), Bool.true_and]
theorem lpG_none {s : ByteArray} (h : lpI s = -1) : lpG s = false := by
  unfold lpG
  rw [h]; rfl
theorem ext_le (s : ByteArray) (a b : Nat) : (s.extract a b).size ≤ s.size := by rw [ByteArray.size_extract]; omega
section
variable {tS tR : TypeId} {pS pR : Value}
theorem fs_gparse (B C : Int) (s : ByteArray) (hG : okG B C = true) (hs : s.size ≤ 100000) : Fs Tryd.prog (ro05 tS pS tR pR) 16 [.v (.agg #[.int .i64 B, .int .i64 C]), .v (.string s)] (hp [] []) fun r _ => r = .v (.tuple #[.int .i64 (lpX B C s), .int .i64 (lpE B C s)]) := by
  have hlen : s.data.toList.length = s.size := by rw [Array.length_toList]; rfl
  have t := g_parse tS tR pS pR tx dpX dpY B C s fun r => r = .v (.tuple #[.int .i64 (lpX B C s), .int .i64 (lpE B C s)])
  have hx : ∀ i : Nat, lpI s = i → i < s.size → ∀ b c : ByteArray, b = s.extract 0 i → c = s.extract (i + 1) s.size →
      (dpY b ≠ 0 → AV.v (.tuple #[.int .i64 0, .int .i64 (dpY b)]) = AV.v (.tuple #[.int .i64 (lpX B C s), .int .i64 (lpE B C s)])) ∧
      (dpY b = 0 → dpY c ≠ 0 → AV.v (.tuple #[.int .i64 0, .int .i64 (dpY c)]) = AV.v (.tuple #[.int .i64 (lpX B C s), .int .i64 (lpE B C s)])) ∧
      (dpY b = 0 → dpY c = 0 → AV.v (.tuple #[.int .i64 (oN B C (dpX b) (dpX c)), .int .i64 (oE B C (dpX b) (dpX c))]) = AV.v (.tuple #[.int .i64 (lpX B C s), .int .i64 (lpE B C s)])) := by
    rintro i hi hlt b c rfl rfl
    have hg := lpG_at hi
    refine ⟨fun h => ?_, fun h1 h => ?_, fun h1 h2 => ?_⟩
    · obtain ⟨e1, e2⟩ := lp_no (B := B) (C := C) (s := s) (by rw [hg, decide_eq_false h]; rfl)
      rw [e1, e2, dpY_two _ h]
    · obtain ⟨e1, e2⟩ := lp_no (B := B) (C := C) (s := s) (by rw [hg, decide_eq_false h, Bool.and_false])
      rw [e1, e2, dpY_two _ h]
    · obtain ⟨e1, e2⟩ := lp_yes (B := B) (C := C) (s := s) (by rw [hg, decide_eq_true h1, decide_eq_true h2]; rfl)
      rw [e1, e2, hi]; rfl
  refine Fs.of_call knownK t (holds_bif (fun h => ?_) fun h0 => holds_bif (fun h => ?_) fun h => ⟨trivial, ?_⟩)
  · have hd : s.data.toList = [46] := by
      have h : ([46] : List UInt8) == s.toList := h
      rw [ByteArray.toList_eq] at h
      exact (eq_of_beq h).symm
    have hi : lpI s = (0 : Nat) := by unfold lpI; rw [hd]; rfl
    have hz : s.size = 1 := by rw [← hlen, hd]; rfl
    obtain ⟨k1, k2, k3⟩ := hx 0 hi (by omega) _ _ rfl rfl
    have l1 := ext_le s 0 0
    have l2 := ext_le s 1 (Int.toNat ((s.size : Nat) : Int))
    have c1 : decide ((0 : Int) ≤ 1 ∧ (1 : Int) ≤ ((s.size : Nat) : Int) ∧ ((s.size : Nat) : Int) ≤ ((s.size : Nat) : Int)) = true := decide_eq_true (by omega)
    have c2 : decide ((s.extract 0 0).size ≤ 100000) = true := decide_eq_true (by omega)
    have c3 : decide ((s.extract 1 (Int.toNat ((s.size : Nat) : Int))).size ≤ 100000) = true := decide_eq_true (by omega)
    refine holds_bif (fun h1 => ⟨?_, k1 (by simpa using h1)⟩) fun h1 => holds_bif (fun h2 => ⟨?_, k2 (by simpa using h1) (by simpa using h2)⟩) fun h2 => ⟨?_, k3 (by simpa using h1) (by simpa using h2)⟩
    all_goals
      repeat' first
        | with_reducible exact trivial
        | with_reducible refine cdb_iff.2 ⟨?_, ?_⟩
        | with_reducible exact c1
        | with_reducible exact c2
        | with_reducible exact c3
        | with_reducible exact hG
  · have h : (0 : Int) ≤ lpI s := of_decide_eq_true h
    obtain ⟨i, hi⟩ := Int.eq_ofNat_of_zero_le h
    have hlt : i < s.size := by
      rcases ib_le s.data.toList with hl | hl
      · have hi' : Lib.indexByte s.data.toList 46 = i := hi
        rw [hi', hlen] at hl; omega
      · have hi' : Lib.indexByte s.data.toList 46 = i := hi
        rw [hi'] at hl; omega
    obtain ⟨k1, k2, k3⟩ := hx i hi hlt _ _ rfl rfl
    have hI : Lib.indexByte s.data.toList (UInt8.ofNat 46) = (i : Nat) := hi
    rw [hI]
    have hw : IntKind.wrap .i64 ((i : Int) + 1) = ((i + 1 : Nat) : Int) := inc64 i (by omega)
    rw [hw]
    have l1 := ext_le s 0 (Int.toNat (i : Int))
    have l2 := ext_le s (Int.toNat ((i + 1 : Nat) : Int)) (Int.toNat ((s.size : Nat) : Int))
    have c1 : decide ((0 : Int) ≤ 0 ∧ (0 : Int) ≤ (i : Int) ∧ (i : Int) ≤ ((s.size : Nat) : Int)) = true := decide_eq_true (by omega)
    have c2 : decide ((s.extract 0 (Int.toNat (i : Int))).size ≤ 100000) = true := decide_eq_true (by omega)
    have c3 : decide ((s.extract (Int.toNat ((i + 1 : Nat) : Int)) (Int.toNat ((s.size : Nat) : Int))).size ≤ 100000) = true := decide_eq_true (by omega)
    have c4 : decide ((0 : Int) ≤ ((i + 1 : Nat) : Int) ∧ ((i + 1 : Nat) : Int) ≤ ((s.size : Nat) : Int) ∧ ((s.size : Nat) : Int) ≤ ((s.size : Nat) : Int)) = true := decide_eq_true (by omega)
    refine holds_bif (fun h1 => ⟨?_, k1 (by simpa using h1)⟩) fun h1 => holds_bif (fun h2 => ⟨?_, k2 (by simpa using h1) (by simpa using h2)⟩) fun h2 => ⟨?_, k3 (by simpa using h1) (by simpa using h2)⟩
    all_goals
      repeat' first
        | with_reducible exact trivial
        | with_reducible refine cdb_iff.2 ⟨?_, ?_⟩
        | with_reducible exact c1
        | with_reducible exact c2
        | with_reducible exact c3
        | with_reducible exact c4
        | with_reducible exact hG
  · have h : ¬ (0 : Int) ≤ lpI s := of_decide_eq_false h
    have hi : lpI s = -1 := by
      have : -1 ≤ lpI s := Lib.indexByte_ge _ _
      omega
    obtain ⟨e1, e2⟩ := lp_no (B := B) (C := C) (lpG_none hi)
    rw [e1, e2]
theorem sl_r8 : slotsOf 17 = 51 := by kernel_rfl
theorem re_r8 : resultsOf 17 = [.tmp 6, .tmp 7] := by kernel_rfl
theorem fl_r8 : (flatten (bodyOf 17)).drop 2 = .block 0 (.loop (sub (bodyOf 17) [1, 0, 1, 0, 0])) :: (flatten (bodyOf 17)).drop 3 := by kernel_rfl
theorem r8_at (s : ByteArray) (i : Nat) (h : i < s.size) : s.data.toList[i]? = some (s.data.getD i 0) := by
  have h2 : i < s.data.size := h
  rw [Array.getElem?_toList, Array.getElem?_eq_getElem h2]
  simp [Array.getD, h2]
  intro h3; omega
theorem fs_rparse8 (B C : Int) (s : ByteArray) (hG : decide (0 ≤ B ∧ B ≤ 8 ∧ 0 ≤ C ∧ C ≤ 16) = true) (hs : s.size ≤ 100000) : Fs Tryd.prog (ro05 tS pS tR pR) 17 [.v (.int .i64 B), .v (.int .i64 C), .v (.string s)] (hp [] []) fun r _ => r = .v (.tuple #[.int .i64 (lpX B C s), .int .i64 (lpE B C s)]) := by
  refine Fs.of_body (has_fn (by kernel_rfl)) ?_
  rw [sl_r8, re_r8]
  have hlen : s.data.toList.length = s.size := by rw [Array.length_toList]; rfl
  refine Tr.of_flat (Trl.split 2 (Trl.of_code knownK (ne_nil (by kernel_rfl)) (r8_pre tS tR pS pR tx dpX dpY B C s _) ⟨trivial, ?_⟩))
  show Trl _ _ ((flatten (bodyOf 17)).drop 2) _ _ _
  rw [fl_r8]
  let I : Nat → List AV → AH → Prop := fun m act H => ∃ i : Nat, i ≤ s.size ∧ m = s.size - i ∧ act = r8A B C s i ∧ H = hp [] [] ∧ (46 : UInt8) ∉ s.data.toList.take i
  refine Tr.block (Tr.loop I ?_ (m := s.size) ⟨0, Nat.zero_le _, rfl, rfl, rfl, by simp⟩)
  rintro m' act H ⟨i, hi, rfl, rfl, rfl, hn⟩
  have body := fun R => r8_in tS tR pS pR tx dpX dpY B C s i R
  rw [inc64 i (by omega)] at body
  refine Tr.of_code knownK (body _) (holds_bif (fun h1 => ?_) fun h1 => ⟨trivial, ?_⟩)
  · have h1 : i < s.size := by have := of_decide_eq_true h1; omega
    have hb := r8_at s i h1
    have c0 : decide ((0 : Int) ≤ (i : Int) ∧ Int.toNat (i : Int) < s.size) = true := decide_eq_true ⟨by omega, by show i < s.size; omega⟩
    refine holds_bif (fun h2 => ⟨by with_reducible exact cdb_iff.2 ⟨trivial, c0⟩, s.size - (i + 1), by omega, i + 1, h1, rfl, rfl, rfl, ?_⟩) fun h2 => ?_
    · have h2 : ((s.data.getD i 0).toNat : Int) ≠ 46 := by
        have h2 : (((s.data.getD i 0).toNat : Int) != 46) = true := h2
        simpa using h2
      rw [List.take_add_one, hb]
      intro hm
      rcases List.mem_append.1 hm with hm | hm
      · exact hn hm
      · have : (46 : UInt8) = s.data.getD i 0 := List.mem_singleton.1 hm
        rw [← this] at h2
        exact h2 rfl
    · have h2 : ((s.data.getD i 0).toNat : Int) = 46 := by
        have h2 : (((s.data.getD i 0).toNat : Int) != 46) = false := h2
        simpa using h2
      have h46 : s.data.getD i 0 = 46 := UInt8.toNat_inj.1 (by show (s.data.getD i 0).toNat = 46; omega)
      rw [h46] at hb
      have hI : lpI s = i := ib_at hn hb
      have hg := lpG_at hI
      have l1 := ext_le s 0 (Int.toNat (i : Int))
      have l2 := ext_le s (Int.toNat ((i + 1 : Nat) : Int)) (Int.toNat ((s.size : Nat) : Int))
      have c1 : decide ((0 : Int) ≤ 0 ∧ (0 : Int) ≤ (i : Int) ∧ (i : Int) ≤ ((s.size : Nat) : Int)) = true := decide_eq_true (by omega)
      have c2 : decide ((s.extract 0 (Int.toNat (i : Int))).size ≤ 100000) = true := decide_eq_true (by omega)
      have c3 : decide ((s.extract (Int.toNat ((i + 1 : Nat) : Int)) (Int.toNat ((s.size : Nat) : Int))).size ≤ 100000) = true := decide_eq_true (by omega)
      have c4 : decide ((0 : Int) ≤ ((i + 1 : Nat) : Int) ∧ ((i + 1 : Nat) : Int) ≤ ((s.size : Nat) : Int) ∧ ((s.size : Nat) : Int) ≤ ((s.size : Nat) : Int)) = true := decide_eq_true (by omega)
      refine holds_bif (fun h3 => ⟨?_, .inr rfl, trivial, ?_⟩) fun h3 => holds_bif (fun h4 => ⟨?_, .inr rfl, trivial, ?_⟩) fun h4 => ⟨?_, .inr rfl, trivial, ?_⟩
      · repeat' first
          | with_reducible exact trivial
          | with_reducible refine cdb_iff.2 ⟨?_, ?_⟩
          | with_reducible exact c0
          | with_reducible exact c1
          | with_reducible exact c2
          | with_reducible exact c3
          | with_reducible exact c4
      · have h3 : ¬ dpY (s.extract 0 i) = 0 := by
          have h3 : (dpY (s.extract 0 i) != 0) = true := h3
          simpa using h3
        obtain ⟨e1, e2⟩ := lp_no (B := B) (C := C) (s := s) (by rw [hg, decide_eq_false h3]; rfl)
        rw [e1, e2]; rfl
      · repeat' first
          | with_reducible exact trivial
          | with_reducible refine cdb_iff.2 ⟨?_, ?_⟩
          | with_reducible exact c0
          | with_reducible exact c1
          | with_reducible exact c2
          | with_reducible exact c3
          | with_reducible exact c4
      · have h4 : ¬ dpY (s.extract (i + 1) s.size) = 0 := by
          have h4 : (dpY (s.extract (i + 1) s.size) != 0) = true := h4
          simpa using h4
        obtain ⟨e1, e2⟩ := lp_no (B := B) (C := C) (s := s) (by rw [hg, decide_eq_false h4, Bool.and_false])
        rw [e1, e2]; rfl
      · repeat' first
          | with_reducible exact trivial
          | with_reducible refine cdb_iff.2 ⟨?_, ?_⟩
          | with_reducible exact c0
          | with_reducible exact c1
          | with_reducible exact c2
          | with_reducible exact c3
          | with_reducible exact c4
          | with_reducible exact hG
      · have h3 : dpY (s.extract 0 i) = 0 := by
          have h3 : (dpY (s.extract 0 i) != 0) = false := h3
          simpa using h3
        have h4 : dpY (s.extract (i + 1) s.size) = 0 := by
          have h4 : (dpY (s.extract (i + 1) s.size) != 0) = false := h4
          simpa using h4
        obtain ⟨e1, e2⟩ := lp_yes (B := B) (C := C) (s := s) (by rw [hg, decide_eq_true h3, decide_eq_true h4]; rfl)
        rw [e1, e2, hI]; rfl
  · have h1 : i = s.size := by have := of_decide_eq_false h1; omega
    subst h1
    rw [List.take_of_length_le (by omega)] at hn
    show Trl _ _ ((flatten (bodyOf 17)).drop 3) _ _ _
    refine Trl.of_code knownK (ne_nil (by kernel_rfl)) (r8_post tS tR pS pR tx dpX dpY B C s _ _) ⟨trivial, .inr rfl, trivial, ?_⟩
    obtain ⟨e1, e2⟩ := lp_no (B := B) (C := C) (lpG_none (ib_no hn))
    rw [e1, e2]; rfl
def point : ByteArray := ⟨#[46]⟩
def ltS (B C n : Int) : ByteArray := if sE B C n = 0 then tx (sB B C n) ++ point ++ tx (sC B C n) else ByteArray.empty
theorem sBC_rng {B C n : Int} (h1 : 0 ≤ B) (h2 : B ≤ 8) (h3 : 0 ≤ C) (h4 : C ≤ 16) : (0 ≤ sB B C n ∧ sB B C n ≤ 128) ∧ (0 ≤ sC B C n ∧ sC B C n ≤ 128) := by
  obtain ⟨B, rfl⟩ := Int.eq_ofNat_of_zero_le h1
  obtain ⟨C, rfl⟩ := Int.eq_ofNat_of_zero_le h3
  have hm := mul_le B C (by omega) (by omega)
  unfold sB sC
  constructor
  · split
    · rename_i h
      rw [← Int.natCast_mul] at h
      have hq := Nat.div_le_self n.toNat (Int.toNat (C : Int))
      generalize n.toNat / Int.toNat (C : Int) = q at hq ⊢
      omega
    · omega
  · split
    · rename_i h
      rw [← Int.natCast_mul] at h
      have hq := Nat.mod_le n.toNat (Int.toNat (C : Int))
      generalize n.toNat % Int.toNat (C : Int) = q at hq ⊢
      omega
    · omega
theorem itoa_len (n : Int) (h0 : 0 ≤ n) (h1 : n ≤ 128) : (tx n).size ≤ 21 := by
  show (List.toArray _).size ≤ 21
  rw [List.size_toArray]
  unfold Lib.itoa
  rw [if_neg (by omega)]
  by_cases h : n.toNat = 0
  · rw [h, Lib.decDigits, dif_pos (by omega)]; exact Nat.le_of_ble_eq_true rfl
  · have := D10_len n.toNat 20 (by have : (10 : Nat) ^ 20 = 100000000000000000000 := by decide
                                   omega)
    unfold D10 at this
    rw [if_neg h] at this
    omega
theorem sE_two (B C n : Int) : sE B C n = 0 ∨ sE B C n = 1 := by unfold sE; split <;> simp
theorem lt_leaf {B C n : Int} (h1 : 0 ≤ B) (h2 : B ≤ 8) (h3 : 0 ≤ C) (h4 : C ≤ 16) : -9223372036854775808 ≤ sB B C n ∧ sB B C n ≤ 9223372036854775807 ∧ -9223372036854775808 ≤ sC B C n ∧ sC B C n ≤ 9223372036854775807 ∧ (tx (sB B C n)).size + 1 ≤ 9223372036854775807 ∧ (tx (sB B C n) ++ point).size + (tx (sC B C n)).size ≤ 9223372036854775807 := by
  obtain ⟨⟨a1, a2⟩, b1, b2⟩ := sBC_rng (n := n) h1 h2 h3 h4
  have l1 := itoa_len _ a1 a2
  have l2 := itoa_len _ b1 b2
  refine ⟨by omega, by omega, by omega, by omega, by omega, ?_⟩
  rw [ByteArray.size_append]
  show _ + 1 + _ ≤ _
  omega
theorem fs_gtext (B C n : Int) (hG : okG B C = true) : Fs Tryd.prog (ro05 tS pS tR pR) 14 [.v (.agg #[.int .i64 B, .int .i64 C]), .v (.int .i64 n)] (hp [] []) fun r _ => r = .v (.tuple #[.string (ltS B C n), .int .i64 (sE B C n)]) := by
  have hG' := of_decide_eq_true hG
  obtain ⟨c1, c2, c3, c4, c5, c6⟩ := lt_leaf (n := n) hG'.1 hG'.2.1 hG'.2.2.1 hG'.2.2.2.1
  refine Fs.of_call knownK (g_text tS tR pS pR tx dpX dpY B C n fun r => r = .v (.tuple #[.string (ltS B C n), .int .i64 (sE B C n)])) (holds_bif (fun h => ⟨by with_reducible exact cdb_iff.2 ⟨trivial, hG⟩, ?_⟩) fun h => ⟨?_, ?_⟩)
  · have h : ¬ sE B C n = 0 := by simpa using h
    unfold ltS
    rw [if_neg h]; rfl
  · repeat' first
      | with_reducible exact trivial
      | with_reducible refine cdb_iff.2 ⟨?_, ?_⟩
      | with_reducible exact hG
      | exact decide_eq_true ⟨c1, c2⟩
      | exact decide_eq_true ⟨c3, c4⟩
      | exact decide_eq_true c5
      | exact decide_eq_true c6
  · have h : sE B C n = 0 := by simpa using h
    unfold ltS
    rw [if_pos h, h]; rfl
theorem fs_rtext8 (B C n : Int) (hG : decide (0 ≤ B ∧ B ≤ 8 ∧ 0 ≤ C ∧ C ≤ 16) = true) : Fs Tryd.prog (ro05 tS pS tR pR) 15 [.v (.int .i64 B), .v (.int .i64 C), .v (.int .i64 n)] (hp [] []) fun r _ => r = .v (.tuple #[.string (ltS B C n), .int .i64 (sE B C n)]) := by
  have hG' := of_decide_eq_true hG
  obtain ⟨c1, c2, c3, c4, c5, c6⟩ := lt_leaf (n := n) hG'.1 hG'.2.1 hG'.2.2.1 hG'.2.2.2
  refine Fs.of_call knownK (r_text tS tR pS pR tx dpX dpY B C n fun r => r = .v (.tuple #[.string (ltS B C n), .int .i64 (sE B C n)])) (holds_bif (fun h => ⟨by with_reducible exact cdb_iff.2 ⟨trivial, hG⟩, ?_⟩) fun h => ⟨?_, ?_⟩)
  · have h : ¬ sE B C n = 0 := by simpa using h
    unfold ltS
    rw [if_neg h]; rfl
  · repeat' first
      | with_reducible exact trivial
      | with_reducible refine cdb_iff.2 ⟨?_, ?_⟩
      | with_reducible exact hG
      | exact decide_eq_true ⟨c1, c2⟩
      | exact decide_eq_true ⟨c3, c4⟩
      | exact decide_eq_true c5
      | exact decide_eq_true c6
  · have h : sE B C n = 0 := by simpa using h
    unfold ltS
    rw [if_pos h, h]; rfl
end
def ltP (T : Int → Int → Int → ByteArray) : List Value → Option (Value × Bool) := fun us => match us with
  | [.agg a, .int .i64 n] => match a.toList with
    | [.int .i64 B, .int .i64 C] => some (.tuple #[.string (T B C n), .int .i64 (sE B C n)], okG B C)
    | _ => none
  | _ => none
def lpP (X E : Int → Int → ByteArray → Int) : List Value → Option (Value × Bool) := fun us => match us with
  | [.agg a, .string s] => match a.toList with
    | [.int .i64 B, .int .i64 C] => some (.tuple #[.int .i64 (X B C s), .int .i64 (E B C s)], okG B C && decide (s.size ≤ 100000))
    | _ => none
  | _ => none
def rltP (T : Int → Int → Int → ByteArray) : List Value → Option (Value × Bool) := fun us => match us with
  | [.int .i64 B, .int .i64 C, .int .i64 n] => some (.tuple #[.string (T B C n), .int .i64 (sE B C n)], decide (0 ≤ B ∧ B ≤ 8 ∧ 0 ≤ C ∧ C ≤ 16))
  | _ => none
def rlpP (X E : Int → Int → ByteArray → Int) : List Value → Option (Value × Bool) := fun us => match us with
  | [.int .i64 B, .int .i64 C, .string s] => some (.tuple #[.int .i64 (X B C s), .int .i64 (E B C s)], decide (0 ≤ B ∧ B ≤ 8 ∧ 0 ≤ C ∧ C ≤ 16) && decide (s.size ≤ 100000))
  | _ => none
section
variable {tS tR : TypeId} {pS pR : Value}
theorem lt_ok : ∀ args H r H', pure? (ltP ltS) args H = some (r, H') → HSound1 Tryd.prog (ro05 tS pS tR pR) 14 args H r H' := by
  refine pure_ok (fun us c hs => ?_) (has_fn (by kernel_rfl))
  unfold ltP at hs
  split at hs
  · split at hs
    · rename_i ha
      have ha := agg_two ha
      subst ha
      simp only [Option.some.injEq, Prod.mk.injEq] at hs
      obtain ⟨rfl, h1⟩ := hs
      exact fs_gtext _ _ _ h1
    · cases hs
  · cases hs
theorem lp_ok : ∀ args H r H', pure? (lpP lpX lpE) args H = some (r, H') → HSound1 Tryd.prog (ro05 tS pS tR pR) 16 args H r H' := by
  refine pure_ok (fun us c hs => ?_) (has_fn (by kernel_rfl))
  unfold lpP at hs
  split at hs
  · split at hs
    · rename_i ha
      have ha := agg_two ha
      subst ha
      simp only [Option.some.injEq, Prod.mk.injEq, Bool.and_eq_true, decide_eq_true_eq] at hs
      obtain ⟨rfl, h1, h2⟩ := hs
      exact fs_gparse _ _ _ h1 h2
    · cases hs
  · cases hs
theorem rlt_ok : ∀ args H r H', pure? (rltP ltS) args H = some (r, H') → HSound1 Tryd.prog (ro05 tS pS tR pR) 15 args H r H' := by
  refine pure_ok (fun us c hs => ?_) (has_fn (by kernel_rfl))
  unfold rltP at hs
  split at hs
  · simp only [Option.some.injEq, Prod.mk.injEq] at hs
    obtain ⟨rfl, h1⟩ := hs
    exact fs_rtext8 _ _ _ h1
  · cases hs
theorem rlp_ok : ∀ args H r H', pure? (rlpP lpX lpE) args H = some (r, H') → HSound1 Tryd.prog (ro05 tS pS tR pR) 17 args H r H' := by
  refine pure_ok (fun us c hs => ?_) (has_fn (by kernel_rfl))
  unfold rlpP at hs
  split at hs
  · simp only [Option.some.injEq, Prod.mk.injEq, Bool.and_eq_true] at hs
    obtain ⟨rfl, h1, h2⟩ := hs
    exact fs_rparse8 _ _ _ h1 (of_decide_eq_true h2)
  · cases hs
end
noncomputable def prM (T : Int → Int → Int → ByteArray) (X E : Int → Int → ByteArray → Int) : FuncId → Option (List AV → AH → Ans) := fun g => match g with
  | 14 => some (pure? (ltP T))
  | 16 => some (pure? (lpP X E))
  | 15 => some (pure? (rltP T))
  | 17 => some (pure? (rlpP X E))
  | 7 => some (pure? rtP)
  | 6 => some (pure? nwP)
  | 11 => some (pure? awakeS)
  | _ => none
theorem knownM {tS tR : TypeId} {pS pR : Value} : Known (ro05 tS pS tR pR) (prM ltS lpX lpE) := by
  intro g p h
  unfold prM at h
  split at h
  · cases h; exact lt_ok
  · cases h; exact lp_ok
  · cases h; exact rlt_ok
  · cases h; exact rlp_ok
  · cases h; exact right_ok _
  · cases h; exact new_ok _
  · cases h; exact fun _ _ _ _ h => HSound1.ro (fun _ _ _ => ro_none _ _) (awake_ok8 _ _ _ _ h)
  · cases h
end Go.Proofs.YtkcaaanmlaodkaaDoor.AE
namespace Go.Proofs.YtkcaaanmlaodkaaDoor.AE
open Go.RowKit
theorem t_texts (tS tR : TypeId) (pS pR : Value) (T : Int → Int → Int → ByteArray) (X E : Int → Int → ByteArray → Int) (B C n : Int) (s : ByteArray) (Φ : AV → Prop) : callK (ro05 tS pS tR pR) (fun _ => false) (prM T X E) 6 4 [.v (.agg #[.int .i64 B, .int .i64 C]), .v (.int .i64 n), .v (.string s)] (hp [] []) (fun r h => some (h.cd ∧ Φ r)) =
    (bif (decide ((60 : Int) < ((ByteArray.size s) : Int))) then (some (True ∧ (Φ (AV.v (Value.bool true))))) else (bif (!(rt B C)) then (some (True ∧ (Φ (AV.v (Value.bool true))))) else (bif ((ByteArray.toList (T (nB B C) (nC B C) n)) == (ByteArray.toList (T B C n))) then (bif ((sE (nB B C) (nC B C) n) == (sE B C n)) then (bif ((X (nB B C) (nC B C) s) == (X B C s)) then (bif ((E (nB B C) (nC B C) s) == (E B C s)) then (some ((cdb (cdb (cdb (cdb True (okG (nB B C) (nC B C))) (decide (((0 : Int) ≤ B) ∧ ((B ≤ (8 : Int)) ∧ (((0 : Int) ≤ C) ∧ (C ≤ (16 : Int))))))) ((okG (nB B C) (nC B C)) && (decide ((ByteArray.size s) ≤ (100000 : Nat))))) ((decide (((0 : Int) ≤ B) ∧ ((B ≤ (8 : Int)) ∧ (((0 : Int) ≤ C) ∧ (C ≤ (16 : Int)))))) && (decide ((ByteArray.size s) ≤ (100000 : Nat))))) ∧ (Φ (AV.v (Value.bool true))))) else (some ((cdb (cdb (cdb (cdb True (okG (nB B C) (nC B C))) (decide (((0 : Int) ≤ B) ∧ ((B ≤ (8 : Int)) ∧ (((0 : Int) ≤ C) ∧ (C ≤ (16 : Int))))))) ((okG (nB B C) (nC B C)) && (decide ((ByteArray.size s) ≤ (100000 : Nat))))) ((decide (((0 : Int) ≤ B) ∧ ((B ≤ (8 : Int)) ∧ (((0 : Int) ≤ C) ∧ (C ≤ (16 : Int)))))) && (decide ((ByteArray.size s) ≤ (100000 : Nat))))) ∧ (Φ (AV.v (Value.bool false)))))) else (some ((cdb (cdb (cdb (cdb True (okG (nB B C) (nC B C))) (decide (((0 : Int) ≤ B) ∧ ((B ≤ (8 : Int)) ∧ (((0 : Int) ≤ C) ∧ (C ≤ (16 : Int))))))) ((okG (nB B C) (nC B C)) && (decide ((ByteArray.size s) ≤ (100000 : Nat))))) ((decide (((0 : Int) ≤ B) ∧ ((B ≤ (8 : Int)) ∧ (((0 : Int) ≤ C) ∧ (C ≤ (16 : Int)))))) && (decide ((ByteArray.size s) ≤ (100000 : Nat))))) ∧ (Φ (AV.v (Value.bool false)))))) else (some ((cdb (cdb (cdb (cdb True (okG (nB B C) (nC B C))) (decide (((0 : Int) ≤ B) ∧ ((B ≤ (8 : Int)) ∧ (((0 : Int) ≤ C) ∧ (C ≤ (16 : Int))))))) ((okG (nB B C) (nC B C)) && (decide ((ByteArray.size s) ≤ (100000 : Nat))))) ((decide (((0 : Int) ≤ B) ∧ ((B ≤ (8 : Int)) ∧ (((0 : Int) ≤ C) ∧ (C ≤ (16 : Int)))))) && (decide ((ByteArray.size s) ≤ (100000 : Nat))))) ∧ (Φ (AV.v (Value.bool false)))))) else (some ((cdb (cdb (cdb (cdb True (okG (nB B C) (nC B C))) (decide (((0 : Int) ≤ B) ∧ ((B ≤ (8 : Int)) ∧ (((0 : Int) ≤ C) ∧ (C ≤ (16 : Int))))))) ((okG (nB B C) (nC B C)) && (decide ((ByteArray.size s) ≤ (100000 : Nat))))) ((decide (((0 : Int) ≤ B) ∧ ((B ≤ (8 : Int)) ∧ (((0 : Int) ≤ C) ∧ (C ≤ (16 : Int)))))) && (decide ((ByteArray.size s) ≤ (100000 : Nat))))) ∧ (Φ (AV.v (Value.bool false)))))))) := by kernel_rfl
end Go.Proofs.YtkcaaanmlaodkaaDoor.AE
namespace Go.Proofs.YtkcaaanmlaodkaaDoor.AE
open Go.RowKit
theorem laid_mem {P : Program} {W : World} : ∀ {l : List (String × DataW Unit)} {ps : List MemPlace}, DataW.LaidVars P W l ps → ∀ {n : String} {d : DataW Unit}, (n, d) ∈ l →
    ∃ g t cs fuel p, P.globalNamed n = some g ∧ (P.globals[g]?).map (·.type) = some t ∧ W.var? P n = some cs ∧ DataW.trod (fun _ => ()) P W 0 (fun _ => true) false fuel t cs.toList = some (d, p) ∧ ∀ x ∈ MemPlace.row ⟨g, 0, none⟩ cs.size, x ∈ ps
  | [], _, _, _, _, h => by cases h
  | (n0, d0) :: l, ps, hv, n, d, h => by
    obtain ⟨g, t, cs, fuel, p, q, h1, h2, h3, h4, h5, h6⟩ := hv
    rcases List.mem_cons.1 h with h | h
    · cases h
      exact ⟨g, t, cs, fuel, p, h1, h2, h3, h4, fun x hx => by rw [h6]; simp [hx]⟩
    · obtain ⟨g', t', cs', fuel', p', k1, k2, k3, k4, k5⟩ := laid_mem h5 h
      exact ⟨g', t', cs', fuel', p', k1, k2, k3, k4, fun x hx => by rw [h6]; simp [k5 x hx]⟩
/-- The block of a variable on the list. -/
theorem laid_block {P : Program} {W : World} {l : List (String × DataW Unit)} (hL : laidMet P l W) {n : String} {d : DataW Unit} (h : (n, d) ∈ l) {g : Nat} (hg : P.globalNamed n = some g) :
    ∃ t cs fuel p, (P.globals[g]?).map (·.type) = some t ∧ W.var? P n = some cs ∧ DataW.trod (fun _ => ()) P W 0 (fun _ => true) false fuel t cs.toList = some (d, p) ∧ (0 < cs.size → ∃ e, W.heap[g]? = some (.cells cs e (0, 0))) := by
  obtain ⟨ps, hv, _, hc⟩ := hL
  obtain ⟨g', t, cs, fuel, p, h1, h2, h3, h4, h5⟩ := laid_mem hv h
  rw [hg] at h1
  cases h1
  refine ⟨t, cs, fuel, p, h2, h3, h4, fun h0 => ?_⟩
  have hm : MemPlace.cell g 0 ∈ ps := h5 _ (by unfold MemPlace.row; simp; exact h0)
  obtain ⟨⟨c, e, he⟩, _⟩ := hc g 0 hm
  have hv3 := h3
  unfold World.var? at hv3
  rw [hg] at hv3
  simp only [Option.bind_some, he, Option.some.injEq] at hv3
  rw [hv3] at he
  exact ⟨e, he⟩
/-- A table of numbers, wherever it stands on the list. -/
theorem laid_table {P : Program} {W : World} {l : List (String × DataW Unit)} (hL : laidMet P l W) {name : String} {k : IntKind} {zs : List Int} (h : (name, Lib.tabData k zs) ∈ l) {g : Nat} {t e : TypeId} {n : Nat} (hg : P.globalNamed name = some g)
    (hty : (P.globals[g]?).map (·.type) = some t) (ht : P.underlying t = some (.array n e)) (he : P.underlying e = some (.int k)) (hce : P.cellsOf e = 1) (hct : P.cellsOf t = n) (h0 : 0 < zs.length) :
    (∀ (j : Nat) (u : Value), (zs.map fun z => Value.int k z)[j]? = some u → (G0 W).prot g j ∧ W.cell? ⟨g, j, none⟩ = some u) ∧ ¬ (G0 W).own g ∧ ∃ t, W.heap[g]? = some (.cells (zs.map fun z => Value.int k z).toArray t (0, 0)) := by
  obtain ⟨t', cs, fuel, p, h2, h3, h4, h5⟩ := laid_block hL h hg
  rw [hty] at h2
  cases h2
  have hcs := Lib.cells_of_tab ht he hce hct h4
  have hsz : cs.size = zs.length := by
    have := congrArg List.length hcs
    simpa using this
  obtain ⟨e', hb⟩ := h5 (by omega)
  have ha : cs = (zs.map fun z => Value.int k z).toArray := by rw [← hcs]
  rw [ha] at hb
  refine ⟨fun j u hu => ⟨?_, ?_⟩, fun o => o, e', hb⟩
  · show g < W.heap.size
    by_cases hlt : g < W.heap.size
    · exact hlt
    · rw [Array.getElem?_eq_none (by omega)] at hb; cases hb
  · simp only [World.cell?, hb]
    simpa using hu
theorem trod_iface {P : Program} {W : World} {t m : _} (hu : P.underlying t = some (.interface m)) {fuel : Nat} {cs : List Value} {nm : String} {d : DataW Unit} {p : List MemPlace} (h : DataW.trod (fun _ => ()) P W 0 (fun _ => true) false fuel t cs = some (.iface nm d, p)) : ∃ u v, cs = [.iface u v] := by
  cases fuel with
  | zero => simp [DataW.trod] at h
  | succ fuel =>
    rcases cs with _ | ⟨c, _ | ⟨c2, r⟩⟩
    · simp [DataW.trod, hu] at h
    · cases c <;> first
        | exact ⟨_, _, rfl⟩
        | (simp [DataW.trod, hu] at h)
    · cases c <;> simp [DataW.trod, hu] at h
/-- A variable that holds an error. -/
theorem laid_error {P : Program} {W : World} {l : List (String × DataW Unit)} (hL : laidMet P l W) {name nm : String} {d : DataW Unit} (h : (name, .iface nm d) ∈ l) {g : Nat} {t m : _} (hg : P.globalNamed name = some g)
    (hty : (P.globals[g]?).map (·.type) = some t) (ht : P.underlying t = some (.interface m)) :
    ∃ u v, (∀ (j : Nat) (x : Value), [Value.iface u v][j]? = some x → (G0 W).prot g j ∧ W.cell? ⟨g, j, none⟩ = some x) ∧ ¬ (G0 W).own g ∧ ∃ t, W.heap[g]? = some (.cells [Value.iface u v].toArray t (0, 0)) := by
  obtain ⟨t', cs, fuel, p, h2, h3, h4, h5⟩ := laid_block hL h hg
  rw [hty] at h2
  cases h2
  obtain ⟨u, v, hcs⟩ := trod_iface ht h4
  have ha : cs = [Value.iface u v].toArray := by rw [← hcs]
  have hsz : 0 < cs.size := by rw [ha]; exact Nat.zero_lt_one
  obtain ⟨e', hb⟩ := h5 hsz
  rw [ha] at hb
  refine ⟨u, v, fun j x hx => ⟨?_, ?_⟩, fun o => o, e', hb⟩
  · show g < W.heap.size
    by_cases hlt : g < W.heap.size
    · exact hlt
    · rw [Array.getElem?_eq_none (by omega)] at hb; cases hb
  · simp only [World.cell?, hb]
    simpa using hx
end Go.Proofs.YtkcaaanmlaodkaaDoor.AE
namespace Go.Proofs.YtkcaaanmlaodkaaDoor.AE
open Go.RowKit
theorem ro08_of {W : World} (h : laidMet Tryd.prog Rows.levelTextsRow.laid W) : ∃ tS pS tR pR, Ro (ro05 tS pS tR pR) (G0 W) W := by
  obtain ⟨tS, pS, hS⟩ := laid_error h (name := "strconv.ErrSyntax") (nm := "*errors.errorString") (d := _) (List.mem_of_getElem? (i := 4) rfl) (g := 1) (by kernel_rfl) (t := 51) (by kernel_rfl) Tryd.underlying51
  obtain ⟨tR, pR, hR⟩ := laid_error h (name := "strconv.ErrRange") (nm := "*errors.errorString") (d := _) (List.mem_of_getElem? (i := 3) rfl) (g := 2) (by kernel_rfl) (t := 51) (by kernel_rfl) Tryd.underlying51
  have hT := laid_table h (name := "internal/strconv.uint64pow10") (k := .u64) (zs := Lib.pow10Tab) (List.mem_of_getElem? (i := 2) (by kernel_rfl)) (g := 3) (by kernel_rfl) (t := 83) (by kernel_rfl) Tryd.underlying83 Tryd.underlying68 (by kernel_rfl) (by kernel_rfl) (by decide)
  refine ⟨tS, pS, tR, pR, fun b cs hb => ?_⟩
  unfold ro05 at hb
  split at hb
  · cases hb; exact hT
  · cases hb; exact hS
  · cases hb; exact hR
  · cases hb
end Go.Proofs.YtkcaaanmlaodkaaDoor.AE
namespace Go.Proofs.YtkcaaanmlaodkaaDoor
open Go.RowKit AE
theorem no_beq {α : Type} [BEq α] [LawfulBEq α] {n : α} {P : Prop} (h : (n == n) = false) : P := by simp at h
theorem w_LevelTexts (w : World) (hR : ∃ tS pS tR pR, Ro (ro05 tS pS tR pR) (G0 w) w) (B C : Int) (_ : (Lit.int .i64 B).wf = true) (_ : (Lit.int .i64 C).wf = true) (n : Int) (_ : (Lit.int .i64 n).wf = true) (s : ByteArray) (_ : s.size ≤ maxLen) :
    Calls Tryd.prog 4 #[.agg #[.int .i64 B, .int .i64 C], .int .i64 n, .string s] w fun e w' => e = .returned (.bool true) ∧ Below w.heap.size w w' := by
  obtain ⟨tS, pS, tR, pR, hR⟩ := hR
  refine law_true (args := [.v (.agg #[.int .i64 B, .int .i64 C]), .v (.int .i64 n), .v (.string s)]) ?_ w _ hR (.cons (.v _) (.cons (.v _) (.cons (.v _) .nil)))
  have t := t_texts tS tR pS pR ltS lpX lpE B C n s fun r => r = .v (.bool true)
  cases hr : rt B C with
  | true =>
    have hb : 1 ≤ B ∧ B ≤ 8 ∧ 1 ≤ C ∧ C ≤ 16 := of_decide_eq_true hr
    have e1 : nB B C = B := by unfold nB; rw [hr]; rfl
    have e2 : nC B C = C := by unfold nC; rw [hr]; rfl
    have e4 : okG B C = true := decide_eq_true (by omega)
    have e5 : decide (0 ≤ B ∧ B ≤ 8 ∧ 0 ≤ C ∧ C ≤ 16) = true := decide_eq_true (by omega)
    rw [hr, e1, e2, e4, e5] at t
    refine Fs.of_call knownM t (holds_bif (fun _ => ⟨trivial, rfl⟩) fun h => holds_bif (fun h => by cases h) fun _ => holds_bif (fun _ => holds_bif (fun _ => holds_bif (fun _ => holds_bif (fun _ => ⟨?_, rfl⟩) no_beq) no_beq) no_beq) no_beq)
    have h := of_decide_eq_false h
    have c : (true && decide (s.size ≤ 100000)) = true := by rw [Bool.true_and]; exact decide_eq_true (by omega)
    exact cdb_iff.2 ⟨cdb_iff.2 ⟨trivial, c⟩, c⟩
  | false =>
    rw [hr] at t
    exact Fs.of_call knownM t (holds_bif (fun _ => ⟨trivial, rfl⟩) fun _ => holds_bif (fun _ => ⟨trivial, rfl⟩) fun h => by cases h)
end Go.Proofs.YtkcaaanmlaodkaaDoor
