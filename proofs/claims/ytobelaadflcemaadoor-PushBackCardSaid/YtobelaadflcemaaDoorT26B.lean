/-
  Layer 26: which pushes may be; their bodies.
-/
import Derived.Test.YtobelaadflcemaaDoorT26
import Derived.Test.YtobelaadflcemaaDoorAENum
namespace Go.Proofs.YtobelaadflcemaaDoor.AE
open Go.RowKit Oc
def okP (f : Nat → Int) : Prop := 0 ≤ f 0 ∧ f 0 < 8 ∧ 0 ≤ f 1 ∧ f 1 < 4294967296 ∧ 0 ≤ f 2 ∧ f 2 < 65536 ∧ 0 ≤ f 3 ∧ f 3 < 65536 ∧ 0 ≤ f 4 ∧ f 4 < 256 ∧ 0 ≤ f 5 ∧ f 5 < 256 ∧ 0 ≤ f 6 ∧ f 6 < 256 ∧ 0 ≤ f 7 ∧ f 7 < 256 ∧ 0 ≤ f 8 ∧ f 8 < 256
instance (f : Nat → Int) : Decidable (okP f) := by unfold okP; infer_instance
def chk26 (f : Nat → Int) : Int := bif decide (okP f) then 0 else 1
theorem chk_no {f : Nat → Int} (h : ¬ okP f) : AV.v (.int .i64 1) = AV.v (.int .i64 (chk26 f)) := by
  unfold chk26; rw [decide_eq_false h]; rfl
theorem chk_yes {f : Nat → Int} (h : okP f) : AV.v (.int .i64 0) = AV.v (.int .i64 (chk26 f)) := by
  unfold chk26; rw [decide_eq_true h]; rfl
theorem fd (n m : Int) (h : 0 ≤ m) : Int.fdiv n m = n / m := Int.fdiv_eq_ediv_of_nonneg n h
theorem fs_check (f : Nat → Int) : Fs Tryd.prog ro26 8 [push f] (hp [] []) fun r _ => r = .v (.int .i64 (chk26 f)) := by
  refine Fs.of_call knownA (t_check f _) ?_
  repeat' (refine holds_bif (fun h => ?_) (fun h => ?_))
  all_goals
    refine ⟨trivial, ?_⟩
    simp only [decide_eq_true_eq, decide_eq_false_iff_not, bne_iff_ne, bne_eq_false_iff_eq, fd _ _ (show (0 : Int) ≤ 256 by decide), fd _ _ (show (0 : Int) ≤ 65536 by decide), fd _ _ (show (0 : Int) ≤ 4294967296 by decide)] at *
    first
      | exact chk_no (by unfold okP; omega)
      | exact chk_yes (by unfold okP; omega)
theorem fs_rcheck (f : Nat → Int) : Fs Tryd.prog ro26 9 [push f] (hp [] []) fun r _ => r = .v (.int .i64 (chk26 f)) := by
  refine Fs.of_call knownA (t_rcheck f _) ?_
  repeat' (refine holds_bif (fun h => ?_) (fun h => ?_))
  all_goals
    refine ⟨trivial, ?_⟩
    simp only [decide_eq_true_eq, decide_eq_false_iff_not] at *
    first
      | exact chk_no (by unfold okP; omega)
      | exact chk_yes (by unfold okP; omega)
/-- Plain numbers. -/
def ints? : List Value → Option (List Int)
  | [] => some []
  | .int .i64 n :: l => match ints? l with
    | some r => some (n :: r)
    | none => none
  | _ => none
theorem ints_map : ∀ {l : List Value} {r : List Int}, ints? l = some r → l = r.map (Value.int .i64)
  | [], r, h => by cases h; rfl
  | x :: l, r, h => by
    unfold ints? at h
    split at h
    · rename_i heq; cases heq
    · rename_i heq
      cases heq
      split at h
      · rename_i q hq
        cases h
        rw [ints_map hq]; rfl
      · cases h
    · cases h
def nine (l : List Int) : Nat → Int := fun n => l.getD n 0
def checkP : List Value → Option (Value × Bool) := fun us => match us with
  | [.agg cs] => match ints? cs.toList with
    | some l => match decide (l.length = 9) with
      | true => some (.int .i64 (chk26 (nine l)), true)
      | false => none
    | none => none
  | _ => none
theorem push_of {cs : Array Value} {l : List Int} (h : ints? cs.toList = some l) (h9 : l.length = 9) : AV.v (.agg cs) = push (nine l) := by
  have := ints_map h
  obtain ⟨c⟩ := cs
  have : c = l.map (Value.int .i64) := this
  subst this
  match l, h9 with
  | [a, b, c, d, e, f, g, h, i], _ => rfl
theorem check_of {g : FuncId} (hg : ∀ f : Nat → Int, Fs Tryd.prog ro26 g [push f] (hp [] []) fun r _ => r = .v (.int .i64 (chk26 f))) : ∀ us c, checkP us = some (c, true) → Fs Tryd.prog ro26 g (us.map .v) (hp [] []) fun r _ => r = .v c := by
  intro us c h
  unfold checkP at h
  split at h
  · split at h
    · rename_i l hl
      split at h
      · rename_i h9
        cases h
        have := push_of hl (of_decide_eq_true h9)
        rw [List.map_cons, List.map_nil, this]
        exact hg (nine l)
      · cases h
    · cases h
  · cases h
theorem check_ok : ∀ args H r H', pure? checkP args H = some (r, H') → HSound1 Tryd.prog ro26 8 args H r H' := pure_ok (check_of fs_check) (has_fn (by kernel_rfl))
theorem rcheck_ok : ∀ args H r H', pure? checkP args H = some (r, H') → HSound1 Tryd.prog ro26 9 args H r H' := pure_ok (check_of fs_rcheck) (has_fn (by kernel_rfl))
/-- The settings of seven numbers. -/
def ofsP : List AV → Option (AV × Bool) := fun ar => match ar with
  | [.lst 1 xs _] => match vals? xs with
    | some us => match ints? us with
      | some l => match decide (l.length = 7) with
        | true => some (.v (.agg us.toArray), true)
        | false => none
      | none => none
    | none => none
  | _ => none
theorem ofs_ok : ∀ args H r H', data? ofsP args H = some (r, H') → HSound1 Tryd.prog ro26 24 args H r H' := by
  refine data_ok (has_fn (by kernel_rfl)) fun args r h => ?_
  unfold ofsP at h
  split at h
  · rename_i xs tip
    split at h
    · rename_i us hu
      split at h
      · rename_i l hl
        split at h
        · rename_i h7
          cases h
          have h7 := of_decide_eq_true h7
          have e1 := vals_map hu
          have e2 := ints_map hl
          subst e2
          subst e1
          match l, h7 with
          | [a, b, c, d, e, f, g], _ => exact Fs.of_call knownA (t_ofs (nine [a, b, c, d, e, f, g]) tip _) ⟨trivial, rfl⟩
        · cases h
      · cases h
    · cases h
  · cases h
def numsP : List AV → Option (AV × Bool) := fun ar => match ar with
  | [.v (.string s), .lst 1 xs _] => match vals? xs with
    | some us => match ints? us with
      | some wl => match wl.isEmpty with
        | false => some (.lst 1 ((numsOf wl s).map gi) .no, enough wl s && decide (s.size ≤ maxLen) && decide (wl.length ≤ 1000))
        | true => none
      | none => none
    | none => none
  | _ => none
theorem nums_ok : ∀ args H r H', data? numsP args H = some (r, H') → HSound1 Tryd.prog ro26 23 args H r H' := by
  refine data_ok (has_fn (by kernel_rfl)) fun args r h => ?_
  unfold numsP at h
  split at h
  · rename_i s xs tip
    split at h
    · rename_i us hu
      split at h
      · rename_i wl hl
        split at h
        · rename_i hne
          simp only [Option.some.injEq, Prod.mk.injEq, Bool.and_eq_true, decide_eq_true_eq] at h
          obtain ⟨rfl, ⟨h1, h2⟩, h3⟩ := h
          have e1 := vals_map hu
          have e2 := ints_map hl
          subst e2
          subst e1
          have e3 : (wl.map (Value.int .i64)).map AV.v = wl.map gi := by rw [List.map_map]; rfl
          rw [e3]
          exact (fs_nums s wl tip h2 h3 (ne_nil hne) h1).ro _
        · cases h
      · cases h
    · cases h
  · cases h
noncomputable def prB : FuncId → Option (List AV → AH → Ans) := fun g => match g with
  | 8 => some (pure? checkP)
  | 9 => some (pure? checkP)
  | 24 => some (data? ofsP)
  | 23 => some (data? numsP)
  | g => prA g
theorem knownB : Known ro26 prB := by
  intro g p h
  unfold prB at h
  split at h
  · cases h; exact check_ok
  · cases h; exact rcheck_ok
  · cases h; exact ofs_ok
  · cases h; exact nums_ok
  · exact knownA _ p h
def muB : FuncId → Bool := fun g => g == 24 + 1000000
theorem flatB : Flats muB prB := by
  intro g h
  have h : g + 1000000 = 24 + 1000000 := eq_of_beq h
  have h := Nat.add_right_cancel h
  subst h
  exact ⟨_, rfl, data_flat _⟩
end Go.Proofs.YtobelaadflcemaaDoor.AE
