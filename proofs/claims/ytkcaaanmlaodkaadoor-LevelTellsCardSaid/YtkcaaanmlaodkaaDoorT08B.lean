/-
  Layer 8: the document's business and class of a level.
-/
import Derived.Test.YtkcaaanmlaodkaaDoorT08
namespace Go.Proofs.YtkcaaanmlaodkaaDoor.AE
open Go.RowKit
theorem ne_nil {α : Type} {l : List α} (h : l.isEmpty = false) : l ≠ [] := by cases l <;> simp_all
theorem add_one (k : Nat) (h : k ≤ 1000000) : IntKind.wrap .i64 ((k : Int) + 1) = ((k + 1 : Nat) : Int) := by
  rw [IntKind.wrap_i64]; omega
theorem Fs.ro {g : FuncId} {args : List AV} {H : AH} {Φ : AV → AH → Prop} (h : Fs Tryd.prog nro g args H Φ) (ro : Nat → Option (List Value)) : Fs Tryd.prog ro g args H Φ :=
  fun G W cargs hI _ hA => h G W cargs hI (ro_none _ _) hA
def spV (B C : Nat) (l : Int) : Value := if 0 ≤ l ∧ l < (B * C : Nat) then .tuple #[.int .i64 (l.toNat / C : Nat), .int .i64 (l.toNat % C : Nat), .int .i64 0] else .tuple #[.int .i64 0, .int .i64 0, .int .i64 1]
theorem sl_sp : slotsOf 13 = 29 := by kernel_rfl
theorem re_sp : resultsOf 13 = [.tmp 6, .tmp 7, .tmp 8] := by kernel_rfl
theorem fl_sp : (flatten (bodyOf 13)).drop 3 = .block 0 (.loop (sub (bodyOf 13) [1, 1, 0, 1, 0, 0])) :: (flatten (bodyOf 13)).drop 4 := by kernel_rfl
theorem fl_sp2 : (flatten (sub (bodyOf 13) [1, 1, 0, 1, 0, 0])).drop 2 = .block 1 (sub (bodyOf 13) [1, 1, 0, 1, 0, 0, 1, 0, 0]) :: (flatten (sub (bodyOf 13) [1, 1, 0, 1, 0, 0])).drop 3 := by kernel_rfl
theorem fl_sp3 : (flatten (sub (bodyOf 13) [1, 1, 0, 1, 0, 0, 1, 0, 0])).drop 1 = [.block 2 (.loop (sub (bodyOf 13) [1, 1, 0, 1, 0, 0, 1, 0, 0, 1, 0, 0]))] := by kernel_rfl
theorem hit {C b c : Nat} (h : c < C) : (b * C + c) / C = b ∧ (b * C + c) % C = c := by
  rw [Nat.mul_comm]
  exact ⟨by rw [Nat.mul_add_div (by omega), Nat.div_eq_of_lt h, Nat.add_zero], by rw [Nat.mul_add_mod, Nat.mod_eq_of_lt h]⟩
theorem below {B C b c : Nat} (hb : b < B) (h : c < C) : b * C + c < B * C := by
  have h1 : (b + 1) * C ≤ B * C := Nat.mul_le_mul_right C hb
  rw [Nat.add_mul, Nat.one_mul] at h1
  omega
theorem fs_split (B C : Nat) (l : Int) (hB : B ≤ 8) (hC : C ≤ 16) : Fs Tryd.prog nro 13 [.v (.int .i64 B), .v (.int .i64 C), .v (.int .i64 l)] (hp [] []) fun r _ => r = .v (spV B C l) := by
  refine Fs.of_body (has_fn (by kernel_rfl)) ?_
  rw [sl_sp, re_sp]
  refine Tr.of_flat (Trl.split 3 (Trl.of_code (knownX nro) (ne_nil (by kernel_rfl)) (s_pre B C l _) ⟨trivial, ?_⟩))
  show Trl _ _ ((flatten (bodyOf 13)).drop 3) _ _ _
  rw [fl_sp]
  have hBC : B * C ≤ 128 := Nat.le_trans (Nat.mul_le_mul hB hC) (by decide)
  let I : Nat → List AV → AH → Prop := fun m act H => ∃ b k : Nat, b ≤ B ∧ m = B - b ∧ act = spA B C l k b .dead ∧ k = b * C ∧ (l < 0 ∨ (k : Int) ≤ l) ∧ H = hp [] []
  by_cases hl0 : l < 0 ∨ 0 ≤ l
  case neg => omega
  refine Tr.block (Tr.loop I ?_ (m := B) ⟨0, 0, Nat.zero_le _, rfl, rfl, by simp, hl0, rfl⟩)
  rintro m act H ⟨b, k, hb, rfl, rfl, hk, hl, rfl⟩
  have hbC : b * C ≤ B * C := Nat.mul_le_mul_right C hb
  refine Tr.of_flat (Trl.split 2 (Trl.of_code (knownX nro) (ne_nil (by kernel_rfl)) (s_head B C l k b _) (holds_bif (fun h8 => ⟨trivial, ?_⟩) (fun h8 => ⟨trivial, ?_⟩))))
  · have h8 := of_decide_eq_true h8
    have hbB : b < B := by omega
    show Trl _ _ ((flatten (sub (bodyOf 13) [1, 1, 0, 1, 0, 0])).drop 2) _ _ _
    rw [fl_sp2]
    refine Tr.block (Tr.of_flat (Trl.split 1 (Trl.of_code (knownX nro) (ne_nil (by kernel_rfl)) (s_five B C l k b _) ⟨trivial, ?_⟩)))
    show Trl _ _ ((flatten (sub (bodyOf 13) [1, 1, 0, 1, 0, 0, 1, 0, 0])).drop 1) _ _ _
    rw [fl_sp3]
    let J : Nat → List AV → AH → Prop := fun m act H => ∃ c k : Nat, c ≤ C ∧ m = C - c ∧ act = spA B C l k b (.v (.int .i64 (c : Nat))) ∧ k = b * C + c ∧ (l < 0 ∨ (k : Int) ≤ l) ∧ H = hp [] []
    refine Tr.block (Tr.loop J ?_ (m := C) ⟨0, k, Nat.zero_le _, rfl, rfl, hk, hl, rfl⟩)
    clear hk hl hl0
    rintro m act H ⟨c, k, hc, rfl, rfl, hk, hl, rfl⟩
    have body := fun R => s_in B C l k b c R
    rw [add_one k (by omega), add_one c (by omega)] at body
    refine Tr.of_code (knownX nro) (body _) (holds_bif (fun h9 => holds_bif (fun he => ⟨trivial, ?_⟩) (fun he => ⟨trivial, ?_⟩)) (fun h9 => ⟨trivial, ?_⟩))
    · have h9 := of_decide_eq_true h9
      have he : (k : Int) = l := eq_of_beq he
      have hcC : c < C := by omega
      obtain ⟨d1, d2⟩ := hit (b := b) hcC
      have hlt := below hbB hcC
      refine ⟨.inr rfl, trivial, ?_⟩
      show AV.v (.tuple #[.int .i64 b, .int .i64 c, .int .i64 0]) = _
      unfold spV
      rw [if_pos (by omega), ← he, Int.toNat_natCast, hk, d1, d2]
    · have h9 := of_decide_eq_true h9
      have he : ¬ (k : Int) = l := ne_of_beq_false he
      exact ⟨C - (c + 1), by omega, c + 1, k + 1, by omega, rfl, rfl, by omega, by omega, rfl⟩
    · have h9 := of_decide_eq_false h9
      obtain rfl : c = C := by omega
      have four := fun R => s_four B c l k b R
      rw [add_one b (by omega)] at four
      show Trl _ _ ((flatten (sub (bodyOf 13) [1, 1, 0, 1, 0, 0])).drop 3) _ _ _
      refine Tr.keepL [0, 1, 2, 9, 10] rfl ?_
      refine Trl.of_code (knownX nro) (ne_nil (by kernel_rfl)) (four _) ⟨trivial, ?_⟩
      exact ⟨B - (b + 1), by omega, b + 1, k, by omega, rfl, rfl, by rw [Nat.add_mul, Nat.one_mul]; omega, hl, rfl⟩
  · have h8 := of_decide_eq_false h8
    obtain rfl : b = B := by omega
    show Trl _ _ ((flatten (bodyOf 13)).drop 4) _ _ _
    refine Trl.of_code (knownX nro) (ne_nil (by kernel_rfl)) (s_post b C l k b _) ⟨trivial, .inr rfl, trivial, ?_⟩
    show AV.v (.tuple #[.int .i64 0, .int .i64 0, .int .i64 1]) = _
    unfold spV
    rw [if_neg (by omega)]
end Go.Proofs.YtkcaaanmlaodkaaDoor.AE
