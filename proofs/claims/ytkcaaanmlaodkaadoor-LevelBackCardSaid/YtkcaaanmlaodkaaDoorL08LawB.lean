/-
  The law LevelBack of layer 8: the call comes to true.
-/
import Derived.Test.YtkcaaanmlaodkaaDoorT08J
import Derived.Test.YtkcaaanmlaodkaaDoorAgg
namespace Go.Proofs.YtkcaaanmlaodkaaDoor
open Go.RowKit AE
theorem rt_out {B C : Int} (h : rt B C = true) : 1 ≤ B ∧ B ≤ 8 ∧ 1 ≤ C ∧ C ≤ 16 := of_decide_eq_true h
theorem sl_back : slotsOf 5 = 142 := by kernel_rfl
theorem re_back : resultsOf 5 = [.tmp 6] := by kernel_rfl
/-- Of two levels the lesser one is of a lesser business, or of a lesser class of the same one. -/
theorem cmp_levels (C a b : Nat) (hC : 0 < C) : ((((a / C : Nat) : Int) < ((b / C : Nat) : Int)) ∨ (((a / C : Nat) : Int) = ((b / C : Nat) : Int) ∧ ((a % C : Nat) : Int) < ((b % C : Nat) : Int))) ↔ (a : Int) < (b : Int) := by
  have e1 : a / C * C + a % C = a := Nat.div_add_mod' a C
  have e2 : b / C * C + b % C = b := Nat.div_add_mod' b C
  have l1 : a % C < C := Nat.mod_lt _ hC
  have l2 : b % C < C := Nat.mod_lt _ hC
  generalize a / C = x at *
  generalize b / C = y at *
  generalize a % C = c at *
  generalize b % C = d at *
  constructor
  · rintro (h | ⟨h, h2⟩)
    · have h3 : (x + 1) * C ≤ y * C := Nat.mul_le_mul_right C (by omega)
      rw [Nat.add_mul, Nat.one_mul] at h3
      omega
    · obtain rfl : x = y := by omega
      omega
  · intro h
    by_cases hxy : x < y
    · exact .inl (by omega)
    · by_cases e : x = y
      · subst e; exact .inr ⟨rfl, by omega⟩
      · exfalso
        have h3 : (y + 1) * C ≤ x * C := Nat.mul_le_mul_right C (by omega)
        rw [Nat.add_mul, Nat.one_mul] at h3
        omega
theorem w_LevelBack (w : World) (B C : Int) (_ : (Lit.int .i64 B).wf = true) (_ : (Lit.int .i64 C).wf = true) (a b : Int) (_ : (Lit.int .i64 a).wf = true) (_ : (Lit.int .i64 b).wf = true) (t : Int) (_ : (Lit.int .i64 t).wf = true) :
    Calls Tryd.prog 5 #[.agg #[.int .i64 B, .int .i64 C], .agg #[.int .i64 a, .int .i64 b], .int .i64 t] w fun e w' => e = .returned (.bool true) ∧ Below w.heap.size w w' := by
  refine law_true (ro := nro) (args := [.v (.agg #[.int .i64 B, .int .i64 C]), .v (.agg #[.int .i64 a, .int .i64 b]), .v (.int .i64 t)]) ?_ w _ (ro_none _ _) (.cons (.v _) (.cons (.v _) (.cons (.v _) .nil)))
  refine Fs.of_body (has_fn (by kernel_rfl)) ?_
  rw [sl_back, re_back]
  have pre := fun R => b_pre B C a b t R
  cases hr : rt B C with
  | false =>
    have e3 : nE B C = 1 := by unfold nE; rw [hr]; rfl
    rw [e3] at pre
    exact Tr.of_flat (Trl.split 7 (Trl.of_code knownG (ne_nil (by kernel_rfl)) (pre _) (holds_bif (fun _ => ⟨trivial, .inr rfl, trivial, rfl⟩) fun h => absurd h (by decide))))
  | true =>
    have hb := rt_out hr
    have e1 : nB B C = B := by unfold nB; rw [hr]; rfl
    have e2 : nC B C = C := by unfold nC; rw [hr]; rfl
    have e3 : nE B C = 0 := by unfold nE; rw [hr]; rfl
    have e4 : okG B C = true := decide_eq_true (by omega)
    rw [e1, e2, e3, e4] at pre
    refine Tr.of_flat (Trl.split 7 (Trl.of_code knownG (ne_nil (by kernel_rfl)) (pre _) (holds_bif (fun h => absurd h (by decide)) fun _ => ⟨by repeat' first | with_reducible exact trivial | with_reducible refine cdb_iff.2 ⟨?_, ?_⟩ | rfl, ?_⟩)))
    show Trl _ _ ((flatten (bodyOf 5)).drop 7) _ _ _
    refine Tr.keepL [2, 7, 8, 9, 11, 12, 13, 14, 15, 16] rfl ?_
    show Trl _ _ _ (tlA t a b (sB B C a) (sC B C a) (sE B C a) (sB B C b) (sC B C b) (sE B C b)) (tlH B C a b) _
    clear pre e1 e2 e3
    by_cases hA : 0 ≤ a ∧ a < B * C
    · have fa : sE B C a = 0 := if_pos hA
      obtain ⟨a, rfl⟩ := Int.eq_ofNat_of_zero_le hA.1
      by_cases hB : 0 ≤ b ∧ b < B * C
      · have fb : sE B C b = 0 := if_pos hB
        obtain ⟨b, rfl⟩ := Int.eq_ofNat_of_zero_le hB.1
        obtain ⟨C, rfl⟩ := Int.eq_ofNat_of_zero_le (show 0 ≤ C by omega)
        obtain ⟨B, rfl⟩ := Int.eq_ofNat_of_zero_le (show 0 ≤ B by omega)
        have xa : sB B C a = ((a / C : Nat) : Int) := if_pos hA
        have ca : sC B C a = ((a % C : Nat) : Int) := if_pos hA
        have xb : sB B C b = ((b / C : Nat) : Int) := if_pos hB
        have cb : sC B C b = ((b % C : Nat) : Int) := if_pos hB
        have hC0 : 0 < C := by omega
        have cmp := cmp_levels C a b hC0
        have l1 : a % C < C := Nat.mod_lt _ hC0
        have l2 : a / C < B := Nat.div_lt_of_lt_mul (by rw [Nat.mul_comm]; have := hA.2; rw [← Int.natCast_mul] at this; omega)
        have l3 : a / C * C + a % C = a := Nat.div_add_mod' a C
        have hr2 : 0 ≤ ((a / C : Nat) : Int) ∧ ((a / C : Nat) : Int) < (B : Int) ∧ 0 ≤ ((a % C : Nat) : Int) ∧ ((a % C : Nat) : Int) < (C : Int) := ⟨Int.natCast_nonneg _, Int.ofNat_lt.2 l2, Int.natCast_nonneg _, Int.ofNat_lt.2 l1⟩
        have on : oN B C ((a / C : Nat) : Int) ((a % C : Nat) : Int) = (a : Int) := by unfold oN; rw [if_pos hr2, ← Int.natCast_mul, ← Int.natCast_add, l3]
        have oe : oE B C ((a / C : Nat) : Int) ((a % C : Nat) : Int) = 0 := if_pos hr2
        have post := fun R => tl00 B C t ((a / C : Nat) : Int) ((a % C : Nat) : Int) ((b / C : Nat) : Int) ((b % C : Nat) : Int) a b R
        rw [on, oe, e4] at post
        rw [fa, fb, xa, ca, xb, cb]
        refine Trl.of_code knownG (ne_nil (by kernel_rfl)) (post _) ?_
        clear post on oe xa ca xb cb l1 l2 l3 hr2 fa fb e4
        have hA2 := hA.2
        have hB2 := hB.2
        clear hA hB
        generalize (B : Int) * (C : Int) = M at *
        generalize ((a / C : Nat) : Int) = x at *
        generalize ((a % C : Nat) : Int) = c at *
        generalize ((b / C : Nat) : Int) = y at *
        generalize ((b % C : Nat) : Int) = d at *
        repeat' (with_reducible refine holds_bif ?_ ?_ <;> intro h <;> try simp at h)
        all_goals first
          | (exfalso; omega)
          | exact ⟨by repeat' first | with_reducible exact trivial | with_reducible refine cdb_iff.2 ⟨?_, ?_⟩ | rfl, .inr rfl, trivial, rfl⟩
      · have fb : sE B C b = 1 := if_neg hB
        rw [fa, fb]
        have post := fun R => tl01 B C t b (sB B C a) (sC B C a) (sB B C b) (sC B C b) a R
        rw [e4] at post
        refine Trl.of_code knownG (ne_nil (by kernel_rfl)) (post _) ?_
        clear post fa fb e4
        generalize B * C = M at *
        repeat' (with_reducible refine holds_bif ?_ ?_ <;> intro h <;> try simp at h)
        all_goals first
          | (exfalso; omega)
          | exact ⟨by repeat' first | with_reducible exact trivial | with_reducible refine cdb_iff.2 ⟨?_, ?_⟩ | rfl, .inr rfl, trivial, rfl⟩
    · have fa : sE B C a = 1 := if_neg hA
      by_cases hB : 0 ≤ b ∧ b < B * C
      · have fb : sE B C b = 0 := if_pos hB
        obtain ⟨b, rfl⟩ := Int.eq_ofNat_of_zero_le hB.1
        rw [fa, fb]
        have post := fun R => tl10 B C t a (sB B C a) (sC B C a) (sB B C b) (sC B C b) b R
        rw [e4] at post
        refine Trl.of_code knownG (ne_nil (by kernel_rfl)) (post _) ?_
        clear post fa fb e4
        generalize B * C = M at *
        repeat' (with_reducible refine holds_bif ?_ ?_ <;> intro h <;> try simp at h)
        all_goals first
          | (exfalso; omega)
          | exact ⟨by repeat' first | with_reducible exact trivial | with_reducible refine cdb_iff.2 ⟨?_, ?_⟩ | rfl, .inr rfl, trivial, rfl⟩
      · have fb : sE B C b = 1 := if_neg hB
        rw [fa, fb]
        have post := fun R => tl11 B C t a b (sB B C a) (sC B C a) (sB B C b) (sC B C b) R
        rw [e4] at post
        refine Trl.of_code knownG (ne_nil (by kernel_rfl)) (post _) ?_
        clear post fa fb e4
        generalize B * C = M at *
        repeat' (with_reducible refine holds_bif ?_ ?_ <;> intro h <;> try simp at h)
        all_goals first
          | (exfalso; omega)
          | exact ⟨by repeat' first | with_reducible exact trivial | with_reducible refine cdb_iff.2 ⟨?_, ?_⟩ | rfl, .inr rfl, trivial, rfl⟩
end Go.Proofs.YtkcaaanmlaodkaaDoor
