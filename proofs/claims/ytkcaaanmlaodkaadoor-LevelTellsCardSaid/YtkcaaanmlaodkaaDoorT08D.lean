/-
  Layer 8: the document's level of a business and a class; awake; the laws' runs.
-/
import Derived.Test.YtkcaaanmlaodkaaDoorT08C
namespace Go.Proofs.YtkcaaanmlaodkaaDoor.AE
open Go.RowKit
def oN (B C x y : Int) : Int := if 0 ≤ x ∧ x < B ∧ 0 ≤ y ∧ y < C then x * C + y else 0
def oE (B C x y : Int) : Int := if 0 ≤ x ∧ x < B ∧ 0 ≤ y ∧ y < C then 0 else 1
theorem sl_of : slotsOf 12 = 38 := by kernel_rfl
theorem re_of : resultsOf 12 = [.tmp 8, .tmp 9] := by kernel_rfl
theorem fl_of : (flatten (bodyOf 12)).drop 2 = .block 0 (.loop (sub (bodyOf 12) [1, 0, 1, 0, 0])) :: (flatten (bodyOf 12)).drop 3 := by kernel_rfl
theorem sBC (B C k : Nat) (h : k < B * C) : sB B C k = ((k / C : Nat) : Int) ∧ sC B C k = ((k % C : Nat) : Int) := by
  have h2 : (0 : Int) ≤ (k : Int) ∧ (k : Int) < (B : Int) * (C : Int) := by
    rw [← Int.natCast_mul]; omega
  unfold sB sC
  rw [if_pos h2, if_pos h2]
  exact ⟨rfl, rfl⟩
theorem fs_of (B C : Nat) (x y : Int) (hB : B ≤ 8) (hC : C ≤ 16) : Fs Tryd.prog nro 12 [.v (.int .i64 B), .v (.int .i64 C), .v (.int .i64 x), .v (.int .i64 y)] (hp [] []) fun r _ => r = .v (.tuple #[.int .i64 (oN B C x y), .int .i64 (oE B C x y)]) := by
  refine Fs.of_body (has_fn (by kernel_rfl)) ?_
  rw [sl_of, re_of]
  refine Tr.of_flat (Trl.split 2 (Trl.of_code (knownO nro) (ne_nil (by kernel_rfl)) (o_pre B C x y _) ⟨trivial, ?_⟩))
  show Trl _ _ ((flatten (bodyOf 12)).drop 2) _ _ _
  rw [fl_of]
  have hBC : B * C ≤ 128 := Nat.le_trans (Nat.mul_le_mul hB hC) (by decide)
  have hw : IntKind.wrap .i64 ((B : Int) * (C : Int)) = ((B * C : Nat) : Int) := by rw [← Int.natCast_mul, IntKind.wrap_i64]; omega
  have cd : decide ((0 : Int) ≤ (B : Int) ∧ (B : Int) ≤ 8 ∧ (0 : Int) ≤ (C : Int) ∧ (C : Int) ≤ 16) = true := decide_eq_true ⟨by omega, by omega, by omega, by omega⟩
  let I : Nat → List AV → AH → Prop := fun m act H => ∃ k : Nat, k ≤ B * C ∧ m = B * C - k ∧ act = oA B C x y k ∧ (∀ b c : Nat, c < C → b * C + c < k → ¬ (x = b ∧ y = c)) ∧ H = hp [] []
  refine Tr.block (Tr.loop I ?_ (m := B * C) ⟨0, Nat.zero_le _, rfl, rfl, fun b c _ h => by omega, rfl⟩)
  rintro m act H ⟨k, hk, rfl, rfl, hno, rfl⟩
  have body := fun R => o_in B C x y k R
  rw [hw, add_one k (by omega)] at body
  have fin : k < B * C → ¬ (x = ((k / C : Nat) : Int) ∧ y = ((k % C : Nat) : Int)) → ∃ m', m' < B * C - k ∧ I m' (oA B C x y ((k + 1 : Nat) : Int)) (hp [] []) := fun hlt hne =>
    ⟨B * C - (k + 1), by omega, k + 1, by omega, rfl, rfl, fun b c hc hb hh => by
      by_cases e : b * C + c = k
      · obtain ⟨d1, d2⟩ := hit (b := b) hc
        rw [e] at d1 d2
        rw [d1, d2] at hne
        exact hne hh
      · exact hno b c hc (by omega) hh, rfl⟩
  refine Tr.of_code (knownO nro) (body _) (holds_bif (fun h8 => ?_) (fun h8 => ⟨trivial, ?_⟩))
  · have h8 := of_decide_eq_true h8
    have hlt : k < B * C := by omega
    obtain ⟨s1, s2⟩ := sBC B C k hlt
    rw [s1, s2]
    have hC0 : 0 < C := Nat.pos_of_ne_zero (by rintro rfl; omega)
    refine holds_bif (fun h1 => holds_bif (fun h2 => ⟨cdb_iff.2 ⟨trivial, cd⟩, ?_⟩) (fun h2 => ⟨cdb_iff.2 ⟨trivial, cd⟩, ?_⟩)) (fun h1 => ⟨cdb_iff.2 ⟨trivial, cd⟩, ?_⟩)
    · have h1 : ((k / C : Nat) : Int) = x := eq_of_beq h1
      have h2 : ((k % C : Nat) : Int) = y := eq_of_beq h2
      refine ⟨.inr rfl, trivial, ?_⟩
      show AV.v (.tuple #[.int .i64 (k : Nat), .int .i64 0]) = _
      have l1 : k % C < C := Nat.mod_lt _ hC0
      have l2 : k / C < B := Nat.div_lt_of_lt_mul (by rw [Nat.mul_comm]; exact hlt)
      have l3 : k / C * C + k % C = k := Nat.div_add_mod' k C
      have hr : 0 ≤ x ∧ x < (B : Int) ∧ 0 ≤ y ∧ y < (C : Int) := ⟨by rw [← h1]; exact Int.natCast_nonneg _, by rw [← h1]; exact Int.ofNat_lt.2 l2, by rw [← h2]; exact Int.natCast_nonneg _, by rw [← h2]; exact Int.ofNat_lt.2 l1⟩
      unfold oN oE
      rw [if_pos hr, if_pos hr, ← h1, ← h2, ← Int.natCast_mul, ← Int.natCast_add, l3]
    · have h2 : ¬ ((k % C : Nat) : Int) = y := ne_of_beq_false h2
      exact fin hlt fun h => h2 h.2.symm
    · have h1 : ¬ ((k / C : Nat) : Int) = x := ne_of_beq_false h1
      exact fin hlt fun h => h1 h.1.symm
  · have h8 := of_decide_eq_false h8
    obtain rfl : k = B * C := by omega
    show Trl _ _ ((flatten (bodyOf 12)).drop 3) _ _ _
    refine Trl.of_code (knownO nro) (ne_nil (by kernel_rfl)) (o_post B C x y _ _) ⟨trivial, .inr rfl, trivial, ?_⟩
    show AV.v (.tuple #[.int .i64 0, .int .i64 1]) = _
    have hn : ¬ (0 ≤ x ∧ x < (B : Int) ∧ 0 ≤ y ∧ y < (C : Int)) := by
      rintro ⟨x0, xB, y0, yC⟩
      obtain ⟨b, rfl⟩ := Int.eq_ofNat_of_zero_le x0
      obtain ⟨c, rfl⟩ := Int.eq_ofNat_of_zero_le y0
      exact hno b c (by omega) (below (by omega) (by omega)) ⟨rfl, rfl⟩
    unfold oN oE
    rw [if_neg hn, if_neg hn]
def ofQ : List Value → Option (Value × Bool) := fun us => match us with
  | [.int .i64 B, .int .i64 C, .int .i64 x, .int .i64 y] => some (.tuple #[.int .i64 (oN B C x y), .int .i64 (oE B C x y)], decide (0 ≤ B ∧ B ≤ 8 ∧ 0 ≤ C ∧ C ≤ 16))
  | _ => none
theorem of_ok (ro : Nat → Option (List Value)) : ∀ args H r H', pure? ofQ args H = some (r, H') → HSound1 Tryd.prog ro 12 args H r H' := by
  refine pure_ok (fun us c hs => Fs.ro ?_ ro) (has_fn (by kernel_rfl))
  unfold ofQ at hs
  split at hs
  · rename_i B C x y
    simp only [Option.some.injEq, Prod.mk.injEq, decide_eq_true_eq] at hs
    obtain ⟨rfl, h1, h2, h3, h4⟩ := hs
    obtain ⟨B, rfl⟩ := Int.eq_ofNat_of_zero_le h1
    obtain ⟨C, rfl⟩ := Int.eq_ofNat_of_zero_le h3
    exact fs_of B C x y (by omega) (by omega)
  · cases hs
theorem fs_awake : Fs Tryd.prog nro 11 [] (hp [] []) fun r _ => r = .v (.bool true) :=
  Fs.of_call (knownX nro) (t_awake fun r => r = .v (.bool true)) ⟨trivial, rfl⟩
theorem awake_ok8 : ∀ args H r H', pure? awakeS args H = some (r, H') → HSound1 Tryd.prog nro 11 args H r H' := by
  refine pure_ok (fun us c hs => ?_) (has_fn (by kernel_rfl))
  unfold awakeS at hs
  split at hs
  · cases hs; exact fs_awake
  · cases hs
noncomputable def prZ : FuncId → Option (List AV → AH → Ans) := fun g => match g with
  | 13 => some (pure? spP)
  | 12 => some (pure? ofQ)
  | 11 => some (pure? awakeS)
  | _ => none
theorem knownZ : Known nro prZ := by
  intro g p h
  unfold prZ at h
  split at h
  · cases h; exact sp_ok _
  · cases h; exact of_ok _
  · cases h; exact awake_ok8
  · cases h
end Go.Proofs.YtkcaaanmlaodkaaDoor.AE
