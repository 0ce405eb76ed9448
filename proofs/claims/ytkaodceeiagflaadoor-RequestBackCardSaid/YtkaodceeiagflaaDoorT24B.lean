/-
  Layer 24: which requests may be.
-/
import Derived.Test.YtkaodceeiagflaaDoorT24
import Derived.Test.YtkaodceeiagflaaDoorAENum
namespace Go.Proofs.YtkaodceeiagflaaDoor.AE
open Go.RowKit Oc
def okP (f : Nat → Int) : Prop := 0 ≤ f 0 ∧ f 0 ≤ 281474976710655 ∧ -1 ≤ f 1 ∧ f 1 ≤ 7 ∧ 0 ≤ f 2 ∧ f 2 ≤ 7 ∧ f 2 ≠ f 1 ∧ 0 ≤ f 3 ∧ f 3 ≤ 127 ∧ 0 ≤ f 4 ∧ f 4 ≤ 1099511627776 ∧ 0 ≤ f 5 ∧ f 5 ≤ 65535
instance (f : Nat → Int) : Decidable (okP f) := by unfold okP; infer_instance
def chk24 (f : Nat → Int) : Int := bif decide (okP f) then 0 else 1
theorem chk_no {f : Nat → Int} (h : ¬ okP f) : AV.v (.int .i64 1) = AV.v (.int .i64 (chk24 f)) := by
  unfold chk24; rw [decide_eq_false h]; rfl
theorem chk_yes {f : Nat → Int} (h : okP f) : AV.v (.int .i64 0) = AV.v (.int .i64 (chk24 f)) := by
  unfold chk24; rw [decide_eq_true h]; rfl
theorem fs_check (f : Nat → Int) : Fs Tryd.prog ro24 8 [req f] (hp [] []) fun r _ => r = .v (.int .i64 (chk24 f)) := by
  refine Fs.of_call knownA (t_check f _) ?_
  repeat' (refine holds_bif (fun h => ?_) (fun h => ?_))
  all_goals
    refine ⟨trivial, ?_⟩
    simp only [decide_eq_true_eq, decide_eq_false_iff_not, bne_iff_ne, bne_eq_false_iff_eq, ne_eq] at *
    first
      | exact chk_no (by unfold okP; omega)
      | exact chk_yes (by unfold okP; omega)
theorem fs_rcheck (f : Nat → Int) : Fs Tryd.prog ro24 9 [req f] (hp [] []) fun r _ => r = .v (.int .i64 (chk24 f)) := by
  refine Fs.of_call knownA (t_rcheck f _) ?_
  repeat' (refine holds_bif (fun h => ?_) (fun h => ?_))
  all_goals
    refine ⟨trivial, ?_⟩
    simp only [decide_eq_true_eq, decide_eq_false_iff_not, beq_iff_eq, beq_eq_false_iff_ne, ne_eq] at *
    first
      | exact chk_no (by unfold okP; omega)
      | exact chk_yes (by unfold okP; omega)
/-- Plain numbers. -/
def ints? : List Value → Option (List Int)
  | [] => some []
  | .int .i64 n :: l => match ints? l with
    | some r => some (n :: r)
    | none => none
  | _ => none
theorem ints_map : ∀ {l : List Value} {r : List Int}, ints? l = some r → l = r.map (Value.int .i64)
  | [], r, h => by cases h; rfl
  | x :: l, r, h => by
    unfold ints? at h
    split at h
    · rename_i heq; cases heq
    · rename_i heq
      cases heq
      split at h
      · rename_i q hq
        cases h
        rw [ints_map hq]; rfl
      · cases h
    · cases h
def six (l : List Int) : Nat → Int := fun n => l.getD n 0
def sixP (F : (Nat → Int) → Value) : List Value → Option (Value × Bool) := fun us => match us with
  | [.agg cs] => match ints? cs.toList with
    | some l => match decide (l.length = 6) with
      | true => some (F (six l), true)
      | false => none
    | none => none
  | _ => none
theorem req_of {cs : Array Value} {l : List Int} (h : ints? cs.toList = some l) (h6 : l.length = 6) : AV.v (.agg cs) = req (six l) := by
  have := ints_map h
  obtain ⟨c⟩ := cs
  have : c = l.map (Value.int .i64) := this
  subst this
  match l, h6 with
  | [a, b, c, d, e, f], _ => rfl
theorem six_of {g : FuncId} {F : (Nat → Int) → Value} (hg : ∀ f : Nat → Int, Fs Tryd.prog ro24 g [req f] (hp [] []) fun r _ => r = .v (F f)) : ∀ us c, sixP F us = some (c, true) → Fs Tryd.prog ro24 g (us.map .v) (hp [] []) fun r _ => r = .v c := by
  intro us c h
  unfold sixP at h
  split at h
  · split at h
    · rename_i l hl
      split at h
      · rename_i h6
        cases h
        have := req_of hl (of_decide_eq_true h6)
        rw [List.map_cons, List.map_nil, this]
        exact hg (six l)
      · cases h
    · cases h
  · cases h
def chkV (f : Nat → Int) : Value := .int .i64 (chk24 f)
def numsP : List AV → Option (AV × Bool) := fun ar => match ar with
  | [.v (.string s), .lst 1 xs _] => match vals? xs with
    | some us => match ints? us with
      | some wl => match wl.isEmpty with
        | false => some (.lst 1 ((numsOf wl s).map gi) .no, enough wl s && decide (s.size ≤ maxLen) && decide (wl.length ≤ 1000))
        | true => none
      | none => none
    | none => none
  | _ => none
theorem nums_ok : ∀ args H r H', data? numsP args H = some (r, H') → HSound1 Tryd.prog ro24 21 args H r H' := by
  refine data_ok (has_fn (by kernel_rfl)) fun args r h => ?_
  unfold numsP at h
  split at h
  · rename_i s xs tip
    split at h
    · rename_i us hu
      split at h
      · rename_i wl hl
        split at h
        · rename_i hne
          simp only [Option.some.injEq, Prod.mk.injEq, Bool.and_eq_true, decide_eq_true_eq] at h
          obtain ⟨rfl, ⟨h1, h2⟩, h3⟩ := h
          have e1 := vals_map hu
          have e2 := ints_map hl
          subst e2
          subst e1
          have e3 : (wl.map (Value.int .i64)).map AV.v = wl.map gi := by rw [List.map_map]; rfl
          rw [e3]
          exact (fs_nums s wl tip h2 h3 (ne_nil hne) h1).ro _
        · cases h
      · cases h
    · cases h
  · cases h
noncomputable def prB : FuncId → Option (List AV → AH → Ans) := fun g => match g with
  | 8 => some (pure? (sixP chkV))
  | 9 => some (pure? (sixP chkV))
  | 21 => some (data? numsP)
  | g => prA g
theorem knownB : Known ro24 prB := by
  intro g p h
  unfold prB at h
  split at h
  · cases h; exact pure_ok (six_of fs_check) (has_fn (by kernel_rfl))
  · cases h; exact pure_ok (six_of fs_rcheck) (has_fn (by kernel_rfl))
  · cases h; exact nums_ok
  · exact knownA _ p h
end Go.Proofs.YtkaodceeiagflaaDoor.AE
