/-
  Layer 5: the program's own variables; a number's text, and a text's number, for the abstract run; awake.
-/
import Derived.Test.YtjnonfcemicmoaaDoorAEDecP
namespace Go.Proofs.YtjnonfcemicmoaaDoor.AE
open Go.RowKit
def ro05 (tS : TypeId) (pS : Value) (tR : TypeId) (pR : Value) : Nat → Option (List Value) := fun b => match b with
  | 3 => some (Lib.pow10Tab.map fun z => Value.int .u64 z)
  | 0 => some ([48, 49, 50, 51, 52, 53, 54, 55, 56, 57, 97, 98, 99, 100, 101, 102].map fun (n : Int) => .int .u8 n)
  | 1 => some [.iface tS pS]
  | 2 => some [.iface tR pR]
  | _ => none
section
variable {tS : TypeId} {pS : Value} {tR : TypeId} {pR : Value} {W : World}
theorem ro_tab (h : Ro (ro05 tS pS tR pR) (G0 W) W) : Lib.TabIs Tryd.prog W "internal/strconv.uint64pow10" .u64 Lib.pow10Tab ∧ 3 < W.heap.size := by
  obtain ⟨h1, _, t, h3⟩ := h 3 _ rfl
  refine ⟨?_, ?_⟩
  · unfold Lib.TabIs World.var?
    rw [show Tryd.prog.globalNamed "internal/strconv.uint64pow10" = some 3 by kernel_rfl]
    simp [h3]
  · by_cases hlt : 3 < W.heap.size
    · exact hlt
    · rw [Array.getElem?_eq_none (by omega)] at h3; cases h3
def textP : List Value → Option (Value × Bool) := fun us => match us with
  | [.int .i64 n] => some (.string ⟨(Lib.itoa n).toArray⟩, decide (-9223372036854775808 ≤ n ∧ n ≤ 9223372036854775807))
  | _ => none
theorem text_ok : ∀ args H r H', pure? textP args H = some (r, H') → HSound1 Tryd.prog (ro05 tS pS tR pR) 11 args H r H' := by
  refine pure_of_calls (has_fn (by kernel_rfl)) fun us c h W hR => ?_
  unfold textP at h
  split at h
  · simp only [Option.some.injEq, Prod.mk.injEq, decide_eq_true_eq] at h
    obtain ⟨rfl, h0, h1⟩ := h
    exact dtext _ h0 h1 W (ro_tab hR).1
  · cases h
def dpX (s : ByteArray) : Int := match Lib.atoiAll s.data.toList with
  | .ok v => if Lib.itoa v = s.data.toList then v else 0
  | _ => 0
def dpY (s : ByteArray) : Int := match Lib.atoiAll s.data.toList with
  | .ok v => if Lib.itoa v = s.data.toList then 0 else 2
  | _ => 2
def parseP : List Value → Option (Value × Bool) := fun us => match us with
  | [.string s] => some (.tuple #[.int .i64 (dpX s), .int .i64 (dpY s)], decide (s.size ≤ 100000))
  | _ => none
theorem parse_ok : ∀ args H r H', pure? parseP args H = some (r, H') → HSound1 Tryd.prog (ro05 tS pS tR pR) 7 args H r H' := by
  refine pure_of_calls (has_fn (by kernel_rfl)) fun us c h W hR => ?_
  unfold parseP at h
  split at h
  · rename_i s
    simp only [Option.some.injEq, Prod.mk.injEq, decide_eq_true_eq] at h
    obtain ⟨rfl, hs⟩ := h
    obtain ⟨hT, hB⟩ := ro_tab hR
    have hS := ((hR 1 _ rfl).1 0 _ rfl).2
    have hE := ((hR 2 _ rfl).1 0 _ rfl).2
    unfold dpX dpY
    rcases ha : Lib.atoiAll s.data.toList with v | _ | _
    · exact dparse_ok s (by omega) v ha W hT hB _ _ (fun h => by simp [h]) (fun h => by simp [h])
    · refine dparse_no s W 0 ((Tryd.strconv_Atoi_syntax s (by omega) ha _ W hS (.inr ⟨_, _, rfl⟩)).mono ?_)
      rintro e w' ⟨N, he, _, _, hb⟩
      exact ⟨N, _, he, hb⟩
    · refine dparse_no s W (Lib.atoiSat s.data.toList) ((Tryd.strconv_Atoi_range s (by omega) ha _ W hE (.inr ⟨_, _, rfl⟩)).mono ?_)
      rintro e w' ⟨N, he, _, _, hb⟩
      exact ⟨N, _, he, hb⟩
  · cases h
end
end Go.Proofs.YtjnonfcemicmoaaDoor.AE
