/-
  Layer 8: grids.
-/
import Derived.Test.YtkcaaanmlaodkaaDoorT08E
namespace Go.Proofs.YtkcaaanmlaodkaaDoor.AE
open Go.RowKit
def rt (B C : Int) : Bool := decide (1 ≤ B ∧ B ≤ 8 ∧ 1 ≤ C ∧ C ≤ 16)
def nB (B C : Int) : Int := if rt B C = true then B else 0
def nC (B C : Int) : Int := if rt B C = true then C else 0
def nE (B C : Int) : Int := if rt B C = true then 0 else 1
theorem fs_right (B C : Int) : Fs Tryd.prog nro 7 [.v (.int .i64 B), .v (.int .i64 C)] (hp [] []) fun r _ => r = .v (.bool (rt B C)) := by
  refine Fs.of_call (known_none nro) (t_right B C fun r => r = .v (.bool (rt B C))) ?_
  unfold rt
  repeat' (with_reducible refine holds_bif ?_ ?_ <;> intro h <;> simp only [decide_eq_true_eq, decide_eq_false_iff_not] at h)
  all_goals (refine ⟨trivial, congrArg (fun b => AV.v (.bool b)) ?_⟩; first | (exact (decide_eq_false (by omega)).symm) | (exact decide_eq_decide.2 (by omega)))
theorem fs_new (B C : Int) : Fs Tryd.prog nro 6 [.v (.int .i64 B), .v (.int .i64 C)] (hp [] []) fun r _ => r = .v (.tuple #[.agg #[.int .i64 (nB B C), .int .i64 (nC B C)], .int .i64 (nE B C)]) := by
  refine Fs.of_call (known_none nro) (t_new B C fun r => r = .v (.tuple #[.agg #[.int .i64 (nB B C), .int .i64 (nC B C)], .int .i64 (nE B C)])) ?_
  unfold nB nC nE rt
  repeat' (with_reducible refine holds_bif ?_ ?_ <;> intro h <;> simp only [decide_eq_true_eq, decide_eq_false_iff_not] at h)
  all_goals (refine ⟨trivial, ?_⟩; simp only [decide_eq_true_eq])
  · rw [if_neg (by omega), if_neg (by omega), if_neg (by omega)]
  · rw [if_neg (by omega), if_neg (by omega), if_neg (by omega)]
  · rw [if_neg (by omega), if_neg (by omega), if_neg (by omega)]
  · rw [if_neg (by omega), if_neg (by omega), if_neg (by omega)]
  · rw [if_pos (by omega), if_pos (by omega), if_pos (by omega)]
theorem mul_le (x C : Nat) (hx : x ≤ 8) (hC : C ≤ 16) : x * C ≤ 128 := Nat.le_trans (Nat.mul_le_mul hx hC) (by decide)
theorem fs_glev (B C : Nat) (hB : B ≤ 8) (hC : C ≤ 16) : Fs Tryd.prog nro 10 [.v (.agg #[.int .i64 B, .int .i64 C])] (hp [] []) fun r _ => r = .v (.int .i64 (B * C)) := by
  refine Fs.of_call (known_none nro) (t_glev B C fun r => r = .v (.int .i64 (B * C))) ⟨trivial, ?_⟩
  have := mul_le B C hB hC
  refine congrArg (fun z => AV.v (.int .i64 z)) ?_
  rw [← Int.natCast_mul, IntKind.wrap_i64]
  omega
theorem fs_gof (B C : Nat) (x y : Int) (hB : B ≤ 8) (hC : C ≤ 16) : Fs Tryd.prog nro 8 [.v (.agg #[.int .i64 B, .int .i64 C]), .v (.int .i64 x), .v (.int .i64 y)] (hp [] []) fun r _ => r = .v (.tuple #[.int .i64 (oN B C x y), .int .i64 (oE B C x y)]) := by
  refine Fs.of_call (known_none nro) (t_gof B C x y fun r => r = .v (.tuple #[.int .i64 (oN B C x y), .int .i64 (oE B C x y)])) ?_
  unfold oN oE
  repeat' (with_reducible refine holds_bif ?_ ?_ <;> intro h <;> simp only [decide_eq_true_eq, decide_eq_false_iff_not, Bool.not_eq_true', Bool.not_eq_false'] at h)
  · rw [if_neg (by omega), if_neg (by omega)]; exact ⟨trivial, rfl⟩
  · rw [if_pos (by omega), if_pos (by omega)]
    refine ⟨trivial, congrArg (fun z => AV.v (.tuple #[.int .i64 z, .int .i64 0])) ?_⟩
    obtain ⟨x, rfl⟩ := Int.eq_ofNat_of_zero_le (show 0 ≤ x by omega)
    have := mul_le x C (by omega) hC
    rw [← Int.natCast_mul, IntKind.wrap_i64, IntKind.wrap_i64]
    omega
  · rw [if_neg (by omega), if_neg (by omega)]; exact ⟨trivial, rfl⟩
  · rw [if_neg (by omega), if_neg (by omega)]; exact ⟨trivial, rfl⟩
  · rw [if_neg (by omega), if_neg (by omega)]; exact ⟨trivial, rfl⟩
theorem fs_gsplit (B n : Nat) (l : Int) (hB : B ≤ 8) (hC : n + 1 ≤ 16) : Fs Tryd.prog nro 9 [.v (.agg #[.int .i64 B, .int .i64 (Int.ofNat (n + 1))]), .v (.int .i64 l)] (hp [] []) fun r _ => r = .v (.tuple #[.int .i64 (sB B (n + 1 : Nat) l), .int .i64 (sC B (n + 1 : Nat) l), .int .i64 (sE B (n + 1 : Nat) l)]) := by
  have t := t_gsplit B l n fun r => r = .v (.tuple #[.int .i64 (sB B (n + 1 : Nat) l), .int .i64 (sC B (n + 1 : Nat) l), .int .i64 (sE B (n + 1 : Nat) l)])
  have hm := mul_le B (n + 1) hB hC
  have hw : IntKind.wrap .i64 ((B : Int) * Int.ofNat (n + 1)) = ((B * (n + 1) : Nat) : Int) := by
    show IntKind.wrap .i64 ((B : Int) * ((n + 1 : Nat) : Int)) = _
    rw [← Int.natCast_mul, IntKind.wrap_i64]
    omega
  have hi : (B : Int) * ((n + 1 : Nat) : Int) = ((B * (n + 1) : Nat) : Int) := (Int.natCast_mul _ _).symm
  rw [hw] at t
  refine Fs.of_call (known_none nro) t (holds_bif (fun h => ?_) fun _ => holds_bif (fun h => ?_) fun h0 => holds_bif (fun h => ?_) fun h => ?_)
  · rw [show (Int.ofNat (n + 1) == 0) = false from rfl] at h
    simp at h
  · have h := of_decide_eq_true h
    refine ⟨trivial, ?_⟩
    unfold sB sC sE
    rw [if_neg (by omega), if_neg (by omega), if_neg (by omega)]
  · have h := of_decide_eq_true h
    refine ⟨trivial, ?_⟩
    unfold sB sC sE
    rw [hi, if_neg (by omega), if_neg (by omega), if_neg (by omega)]
  · have h0 := of_decide_eq_false h0
    have h := of_decide_eq_false h
    obtain ⟨l, rfl⟩ := Int.eq_ofNat_of_zero_le (show 0 ≤ l by omega)
    refine ⟨trivial, ?_⟩
    unfold sB sC sE
    rw [hi, if_pos (by omega), if_pos (by omega), if_pos (by omega)]
    have hd : l / (n + 1) ≤ l := Nat.div_le_self _ _
    have e1 : IntKind.wrap .i64 (Int.tdiv (l : Int) (Int.ofNat (n + 1))) = ((l / (n + 1) : Nat) : Int) := by
      rw [show Int.tdiv (l : Int) (Int.ofNat (n + 1)) = ((l / (n + 1) : Nat) : Int) from rfl, IntKind.wrap_i64]
      generalize l / (n + 1) = q at hd ⊢
      omega
    rw [e1]
    rfl
theorem fs_gsplit0 (l : Int) : Fs Tryd.prog nro 9 [.v (.agg #[.int .i64 0, .int .i64 0]), .v (.int .i64 l)] (hp [] []) fun r _ => r = .v (.tuple #[.int .i64 (sB 0 0 l), .int .i64 (sC 0 0 l), .int .i64 (sE 0 0 l)]) := by
  refine Fs.of_call (known_none nro) (t_gsplit0 l fun r => r = .v (.tuple #[.int .i64 (sB 0 0 l), .int .i64 (sC 0 0 l), .int .i64 (sE 0 0 l)])) ⟨trivial, ?_⟩
  unfold sB sC sE
  rw [if_neg (by omega), if_neg (by omega), if_neg (by omega)]
def rtP : List Value → Option (Value × Bool) := fun us => match us with
  | [.int .i64 B, .int .i64 C] => some (.bool (rt B C), true)
  | _ => none
def nwP : List Value → Option (Value × Bool) := fun us => match us with
  | [.int .i64 B, .int .i64 C] => some (.tuple #[.agg #[.int .i64 (nB B C), .int .i64 (nC B C)], .int .i64 (nE B C)], true)
  | _ => none
def okG (B C : Int) : Bool := decide (0 ≤ B ∧ B ≤ 8 ∧ 0 ≤ C ∧ C ≤ 16 ∧ (C = 0 → B = 0))
def gofP : List Value → Option (Value × Bool) := fun us => match us with
  | [.agg a, .int .i64 x, .int .i64 y] => match a.toList with
    | [.int .i64 B, .int .i64 C] => some (.tuple #[.int .i64 (oN B C x y), .int .i64 (oE B C x y)], okG B C)
    | _ => none
  | _ => none
def gspP : List Value → Option (Value × Bool) := fun us => match us with
  | [.agg a, .int .i64 l] => match a.toList with
    | [.int .i64 B, .int .i64 C] => some (.tuple #[.int .i64 (sB B C l), .int .i64 (sC B C l), .int .i64 (sE B C l)], okG B C)
    | _ => none
  | _ => none
def glvP : List Value → Option (Value × Bool) := fun us => match us with
  | [.agg a] => match a.toList with
    | [.int .i64 B, .int .i64 C] => some (.int .i64 (B * C), okG B C)
    | _ => none
  | _ => none
theorem agg_two {a : Array Value} {x y : Value} (h : a.toList = [x, y]) : a = #[x, y] := Array.toList_inj.1 h
theorem right_ok (ro : Nat → Option (List Value)) : ∀ args H r H', pure? rtP args H = some (r, H') → HSound1 Tryd.prog ro 7 args H r H' := by
  refine pure_ok (fun us c hs => Fs.ro ?_ ro) (has_fn (by kernel_rfl))
  unfold rtP at hs
  split at hs
  · simp only [Option.some.injEq, Prod.mk.injEq, and_true] at hs
    subst hs; exact fs_right _ _
  · cases hs
theorem new_ok (ro : Nat → Option (List Value)) : ∀ args H r H', pure? nwP args H = some (r, H') → HSound1 Tryd.prog ro 6 args H r H' := by
  refine pure_ok (fun us c hs => Fs.ro ?_ ro) (has_fn (by kernel_rfl))
  unfold nwP at hs
  split at hs
  · simp only [Option.some.injEq, Prod.mk.injEq, and_true] at hs
    subst hs; exact fs_new _ _
  · cases hs
theorem gof_ok (ro : Nat → Option (List Value)) : ∀ args H r H', pure? gofP args H = some (r, H') → HSound1 Tryd.prog ro 8 args H r H' := by
  refine pure_ok (fun us c hs => Fs.ro ?_ ro) (has_fn (by kernel_rfl))
  unfold gofP at hs
  split at hs
  · split at hs
    · rename_i ha
      have ha := agg_two ha
      subst ha
      unfold okG at hs
      simp only [Option.some.injEq, Prod.mk.injEq, decide_eq_true_eq] at hs
      obtain ⟨rfl, h1, h2, h3, h4, h5⟩ := hs
      rename_i B C
      obtain ⟨B, rfl⟩ := Int.eq_ofNat_of_zero_le h1
      obtain ⟨C, rfl⟩ := Int.eq_ofNat_of_zero_le h3
      exact fs_gof B C _ _ (by omega) (by omega)
    · cases hs
  · cases hs
theorem gsp_ok (ro : Nat → Option (List Value)) : ∀ args H r H', pure? gspP args H = some (r, H') → HSound1 Tryd.prog ro 9 args H r H' := by
  refine pure_ok (fun us c hs => Fs.ro ?_ ro) (has_fn (by kernel_rfl))
  unfold gspP at hs
  split at hs
  · split at hs
    · rename_i ha
      have ha := agg_two ha
      subst ha
      unfold okG at hs
      simp only [Option.some.injEq, Prod.mk.injEq, decide_eq_true_eq] at hs
      obtain ⟨rfl, h1, h2, h3, h4, h5⟩ := hs
      rename_i B C
      obtain ⟨B, rfl⟩ := Int.eq_ofNat_of_zero_le h1
      obtain ⟨C, rfl⟩ := Int.eq_ofNat_of_zero_le h3
      cases C with
      | zero =>
        obtain rfl : B = 0 := by have := h5 rfl; omega
        exact fs_gsplit0 _
      | succ n => exact fs_gsplit B n _ (by omega) (by omega)
    · cases hs
  · cases hs
theorem glv_ok (ro : Nat → Option (List Value)) : ∀ args H r H', pure? glvP args H = some (r, H') → HSound1 Tryd.prog ro 10 args H r H' := by
  refine pure_ok (fun us c hs => Fs.ro ?_ ro) (has_fn (by kernel_rfl))
  unfold glvP at hs
  split at hs
  · split at hs
    · rename_i ha
      have ha := agg_two ha
      subst ha
      unfold okG at hs
      simp only [Option.some.injEq, Prod.mk.injEq, decide_eq_true_eq] at hs
      obtain ⟨rfl, h1, h2, h3, h4, h5⟩ := hs
      rename_i B C
      obtain ⟨B, rfl⟩ := Int.eq_ofNat_of_zero_le h1
      obtain ⟨C, rfl⟩ := Int.eq_ofNat_of_zero_le h3
      exact fs_glev B C (by omega) (by omega)
    · cases hs
  · cases hs
noncomputable def prG : FuncId → Option (List AV → AH → Ans) := fun g => match g with
  | 13 => some (pure? spP)
  | 12 => some (pure? ofQ)
  | 7 => some (pure? rtP)
  | 6 => some (pure? nwP)
  | 8 => some (pure? gofP)
  | 9 => some (pure? gspP)
  | 10 => some (pure? glvP)
  | 11 => some (pure? awakeS)
  | _ => none
theorem knownG : Known nro prG := by
  intro g p h
  unfold prG at h
  split at h
  · cases h; exact sp_ok _
  · cases h; exact of_ok _
  · cases h; exact right_ok _
  · cases h; exact new_ok _
  · cases h; exact gof_ok _
  · cases h; exact gsp_ok _
  · cases h; exact glv_ok _
  · cases h; exact awake_ok8
  · cases h
end Go.Proofs.YtkcaaanmlaodkaaDoor.AE
