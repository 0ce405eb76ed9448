/-
  Rows of numbers held against each other: what is known.
-/
import Derived.Test.YtkpgldafkbhngaaT07S
namespace Go.Proofs.Ytkpgldafkbhngaa.AE
open Go.RowKit
theorem si_sl : slotsOf 11 = 32 := by kernel_rfl
theorem si_re : resultsOf 11 = [.tmp 4] := by kernel_rfl
theorem si_fl : (flatten (bodyOf 11)).drop 4 = .block 0 (.loop (sub (bodyOf 11) [1, 1, 0, 1, 0, 0])) :: (flatten (bodyOf 11)).drop 5 := by kernel_rfl
theorem gilS (l : List Int) : (l.map gi).length = l.length := List.length_map ..
set_option maxRecDepth 100000 in
theorem fs_samei {ro : Nat → Option (List Value)} (a b : List Int) (ha : a.length ≤ 1000000) : Fs Try.prog ro 11 [.lst 1 (a.map gi) .no, .lst 1 (b.map gi) .no] (hp [] []) fun r _ => r = .v (.bool (decide (a = b))) := by
  refine Fs.of_body (has_fn (by kernel_rfl)) ?_
  rw [si_sl, si_re]
  have pre := fun R => si_pre ro a b R
  rw [gilS, gilS] at pre
  refine Tr.of_flat (Trl.split 4 (Trl.of_code (known_none _) (ne_nil (by kernel_rfl)) (pre _) (holds_bif (fun h => ⟨trivial, .inr rfl, trivial, ?_⟩) fun h => ⟨trivial, ?_⟩)))
  · have h : ¬ a = b := by rintro rfl; simp at h
    rw [decide_eq_false h]; rfl
  have hlen : a.length = b.length := by simp at h; omega
  show Trl _ _ ((flatten (bodyOf 11)).drop 4) _ _ _
  rw [si_fl]
  refine Tr.keepL [0, 1, 5] rfl ?_
  let I : Nat → List AV → AH → Prop := fun m act H => ∃ i : Nat, i ≤ a.length ∧ m = a.length - i ∧ act = siA (.lst 1 (a.map gi) .no) (.lst 1 (b.map gi) .no) i ∧ H = hp [] [] ∧ a.take i = b.take i
  refine Tr.block (Tr.loop I ?_ (m := a.length) ⟨0, Nat.zero_le _, rfl, rfl, rfl, rfl⟩)
  rintro m act H ⟨i, hi, rfl, rfl, rfl, hp⟩
  have body := fun R => si_in ro a b i R
  rw [gilS, gilS, inc64 i (by omega)] at body
  refine Tr.of_code (known_none _) (body _) (holds_bif (fun h1 => holds_bif (fun h2 => ?_) (fun h2 => ?_)) fun h1 => ⟨trivial, ?_⟩)
  · have h1 : i < a.length := by have := of_decide_eq_true h1; omega
    have h2 : i < b.length := by omega
    have g1 : (a.map gi)[Int.toNat (i : Int)]? = some (.v (.int .i64 a[i])) := gi_get h1
    have g2 : (b.map gi)[Int.toNat (i : Int)]? = some (.v (.int .i64 b[i])) := gi_get h2
    have h0 := Int.natCast_nonneg i
    rw [gi_ex h1, gi_ex h2]
    refine holds_bif (fun h3 => ⟨cds_of (cds_of trivial ⟨h0, g1⟩) ⟨h0, g2⟩, .inr rfl, trivial, ?_⟩) (fun h3 => ⟨cds_of (cds_of trivial ⟨h0, g1⟩) ⟨h0, g2⟩, a.length - (i + 1), by omega, i + 1, h1, rfl, rfl, rfl, ?_⟩)
    · have h3 : ¬ a[i] = b[i] := by simpa using h3
      have : ¬ a = b := by rintro rfl; exact h3 rfl
      rw [decide_eq_false this]; rfl
    · have h3 : a[i] = b[i] := by simpa using h3
      rw [take_snoc h1, take_snoc h2, hp, h3]
  · have h1 := of_decide_eq_true h1
    have h2 := of_decide_eq_false h2
    omega
  · have h1 : i = a.length := by have := of_decide_eq_false h1; omega
    have hab : a = b := by
      rw [h1, List.take_length, hlen, List.take_length] at hp; exact hp
    show Trl _ _ ((flatten (bodyOf 11)).drop 5) _ _ _
    refine Trl.of_code (known_none _) (ne_nil (by kernel_rfl)) (si_post ro _ _ _ _) ⟨trivial, .inr rfl, trivial, ?_⟩
    rw [decide_eq_true hab]; rfl
def sameIV (S : AV → AV → Bool) (args : List AV) : AV := .v (.bool (S (args.headD .dead) (args.tail.headD .dead)))
def sameIOk (args : List AV) : Bool := match args with
  | [x, y] => (match intsA? x with | some l => decide (l.length ≤ 1000000) | none => false) && (match intsA? y with | some _ => true | none => false)
  | _ => false
def intsY (x : AV) : List Int := match intsA? x with
  | some l => l
  | none => []
theorem intsY_some {x : AV} {l : List Int} (h : intsA? x = some l) : intsY x = l := by unfold intsY; rw [h]
theorem intsY_lst (l : List Int) (tip : Tip) : intsY (.lst 1 (l.map gi) tip) = l := intsY_some (intsA_lst l tip)
def sameIX (x y : AV) : Bool := decide (intsY x = intsY y)
theorem sameIOk_of (l m : List Int) (t u : Tip) (h : l.length ≤ 1000000) : sameIOk [.lst 1 (l.map gi) t, .lst 1 (m.map gi) u] = true := by
  show ((match intsA? (.lst 1 (l.map gi) t) with | some l => decide (l.length ≤ 1000000) | none => false) && (match intsA? (.lst 1 (m.map gi) u) with | some _ => true | none => false)) = true
  rw [intsA_lst, intsA_lst]
  simp [h]
theorem samei_ok {ro : Nat → Option (List Value)} : ∀ args H r H', tot? (sameIV sameIX) sameIOk args H = some (r, H') → HSound1 Try.prog ro 11 args H r H' := by
  refine tot_nrm (has_fn (by kernel_rfl)) fun args hok => ?_
  unfold sameIOk at hok
  split at hok
  · rename_i x y
    simp only [Bool.and_eq_true] at hok
    obtain ⟨k1, k2⟩ := hok
    cases h1 : intsA? x with
    | none => rw [h1] at k1; cases k1
    | some a =>
      cases h2 : intsA? y with
      | none => rw [h2] at k2; cases k2
      | some b =>
        rw [h1] at k1
        obtain ⟨a4, a5⟩ := intsA_nrm h1
        obtain ⟨b4, b5⟩ := intsA_nrm h2
        refine ⟨by simp [a4, b4], ?_⟩
        rw [List.map_cons, List.map_cons, List.map_nil, a5, b5]
        refine (fs_samei a b (of_decide_eq_true k1)).mono fun r _ h => ?_
        subst h
        refine ⟨_, rfl, ?_⟩
        show Le _ (.v (.bool (decide (intsY x = intsY y))))
        rw [intsY_some h1, intsY_some h2]
        exact Le.refl _
  · cases hok
end Go.Proofs.Ytkpgldafkbhngaa.AE
