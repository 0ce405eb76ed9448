/-
  Layer 13: an item changes places with itself.
-/
import Derived.Test.YtgdcpdhcnjmfcaaT13B
namespace Go.Proofs.Ytgdcpdhcnjmfcaa.AE
set_option maxRecDepth 100000
open Go.RowKit
theorem neN13 {l : List Code} (h : l.isEmpty = false) : l ≠ [] := by rintro rfl; cases h
theorem known_13 (ro : Nat → Option (List Value)) : Known ro pr13 := fun g p h => by cases h
theorem flat13 {pr : FuncId → Option (List AV → AH → Ans)} : Flats mu13b pr := by
  intro (g : Nat) h
  unfold mu13b at h
  have h2 := Nat.eq_of_beq_eq_true h
  omega
theorem sw_sl : slotsOf 51 = 28 := by kernel_rfl
theorem sw_re : resultsOf 51 = [] := by kernel_rfl
theorem sw_fl : flatten (bodyOf 51) = sub (bodyOf 51) [0] :: (flatten (bodyOf 51)).drop 1 := by kernel_rfl
def mkD : TypeDesc := .int .i64
def swM (a : Int) (M : List AV) : List AV := mset mkD (.int .i64 a) (gi 0) (mset mkD (.int .i64 a) (gi 0) M)
def swP (a b c d e f g : Int) (R M : List AV) (r : AV) (H' : AH) : Prop := r = .v (.tuple #[]) ∧ ∃ tips more, H' = hp ([(75, swC a b c d e f g R), (999998, swM a M)] ++ more) tips
theorem fs_sw00 (a b c d e f g : Int) (R M : List AV) (h1 : mok mkD (.int .i64 a) M = true) (h2 : mok mkD (.int .i64 a) (mset mkD (.int .i64 a) (gi 0) M) = true) : Fs Try.prog nro 51 [.ptr 0 0, gi 0, gi 0] (swH0 a b c d e f g R M []) (swP a b c d e f g R M) := by
  refine Fs.of_body (has_fn (by kernel_rfl)) ?_
  rw [sw_sl, sw_re]
  refine Tr.of_flat ?_
  rw [sw_fl]
  have last : Trl Try.prog nro ((flatten (bodyOf 51)).drop 1) ([.ptr 0 0, gi 0, gi 0, .dead, .dead, .dead, .ptr 2 0, .ptr 3 0] ++ List.replicate 20 .dead) (swH0 a b c d e f g R M [(30, i7 a b c d e f g), (30, i7 a b c d e f g)]) fun e' act h => (e' = .normal ∨ e' = .ret) ∧ ansOk (swP a b c d e f g R M) (resOf Try.prog nro [] act h) := by
    refine Trl.of_code (known_13 _) (neN13 (by kernel_rfl)) (sw_1 a b c d e f g R M _) (holds_some ⟨?_, .inl rfl, trivial, rfl, [], _, rfl⟩) flat13
    exact cds_of (cds_of trivial h1) h2
  have last2 : Trl Try.prog nro ((flatten (bodyOf 51)).drop 1) ([.ptr 0 0, gi 0, gi 0, .dead, .dead, .dead, .ptr 3 0, .ptr 2 0] ++ List.replicate 20 .dead) (swH0 a b c d e f g R M [(30, i7 a b c d e f g), (30, i7 a b c d e f g)]) fun e' act h => (e' = .normal ∨ e' = .ret) ∧ ansOk (swP a b c d e f g R M) (resOf Try.prog nro [] act h) := by
    refine Trl.of_code (known_13 _) (neN13 (by kernel_rfl)) (sw_1b a b c d e f g R M _) (holds_some ⟨?_, .inl rfl, trivial, rfl, [], _, rfl⟩) flat13
    exact cds_of (cds_of trivial h1) h2
  refine Tr.of_ord (known_13 _) (sw_0 a b c d e f g R M _) (holds_some ?_)
  repeat' with_reducible refine And.intro ?_ ?_
  all_goals first
    | with_reducible exact trivial
    | exact last
    | exact last2
def swO : ObjS where
  pick := fun args H => match args with
    | .ptr id _ :: _ => match H.blks[id]? with
      | some b => match b.2 with
        | .mp j :: _ => some [id, j]
        | _ => none
      | none => none
    | _ => none
  mask := [false, true]
  maskB := [false, true]
  spec := fun args bs => match args with
    | [.ptr 0 0, .v (.int .i64 p), .v (.int .i64 q)] => match bs with
      | [(t, .mp 1 :: .v (.int .i64 a) :: .v (.int .i64 b) :: .v (.int .i64 c) :: .v (.int .i64 d) :: .v (.int .i64 e) :: .v (.int .i64 f) :: .v (.int .i64 g) :: R), (t2, M)] => some (.v (.tuple #[]), [(t, swC a b c d e f g R), (t2, swM a M)], (decide (p = 0) && decide (q = 0)) && ((Nat.beq t 75 && Nat.beq t2 999998) && (mok mkD (.int .i64 a) M && mok mkD (.int .i64 a) (mset mkD (.int .i64 a) (gi 0) M))))
      | _ => none
    | _ => none
theorem swO_ok : ∀ args H r H', obj? swO args H = some (r, H') → HSound1 Try.prog nro 51 args H r H' := by
  refine obj_ok (has_fn (by kernel_rfl)) fun args bs r bs2 hs => ?_
  unfold swO at hs
  simp only at hs
  split at hs
  · rename_i p q
    split at hs
    · rename_i t a b c d e f g R t2 M
      simp only [Option.some.injEq, Prod.mk.injEq, Bool.and_eq_true, decide_eq_true_eq] at hs
      obtain ⟨rfl, rfl, ⟨rfl, rfl⟩, ⟨e1, e2⟩, h1, h2⟩ := hs
      have e1 := Nat.eq_of_beq_eq_true e1
      have e2 := Nat.eq_of_beq_eq_true e2
      subst e1
      subst e2
      exact (fs_sw00 a b c d e f g R M h1 h2).mono fun r' H' hr => ⟨.inl hr.1, hr.2⟩
    · cases hs
  · cases hs
noncomputable def prQ : FuncId → Option (List AV → AH → Ans) := fun g => match g with
  | 51 => some (obj? swO)
  | _ => none
theorem knownQ : Known nro prQ := by
  intro g p h
  unfold prQ at h
  split at h <;> cases h
  · exact swO_ok
end Go.Proofs.Ytgdcpdhcnjmfcaa.AE
