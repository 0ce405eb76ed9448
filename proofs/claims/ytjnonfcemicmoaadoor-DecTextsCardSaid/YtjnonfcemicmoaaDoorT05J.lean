/-
  Layer 5: the program's own variables, by a row's list.
-/
import Derived.Test.YtjnonfcemicmoaaDoorT05
import Derived.Test.YtjnonfcemicmoaaDoorLaid
namespace Go.Proofs.YtjnonfcemicmoaaDoor.AE
open Go.RowKit
theorem ro05_of {W : World} (h : laidMet Tryd.prog Rows.decTextsRow.laid W) : ∃ tS pS tR pR, Ro (ro05 tS pS tR pR) (G0 W) W := by
  obtain ⟨tS, pS, hS⟩ := laid_error h (name := "strconv.ErrSyntax") (nm := "*errors.errorString") (d := _) (List.mem_of_getElem? (i := 5) rfl) (g := 1) (by kernel_rfl) (t := 41) (by kernel_rfl) Tryd.underlying41
  obtain ⟨tR, pR, hR⟩ := laid_error h (name := "strconv.ErrRange") (nm := "*errors.errorString") (d := _) (List.mem_of_getElem? (i := 4) rfl) (g := 2) (by kernel_rfl) (t := 41) (by kernel_rfl) Tryd.underlying41
  have hT := laid_table h (name := "internal/strconv.uint64pow10") (k := .u64) (zs := Lib.pow10Tab) (List.mem_of_getElem? (i := 2) (by kernel_rfl)) (g := 3) (by kernel_rfl) (t := 95) (by kernel_rfl) Tryd.underlying95 Tryd.underlying22 (by kernel_rfl) (by kernel_rfl) (by decide)
  have hD := laid_table h (name := "lockkeeper/dec.digits") (k := .u8) (zs := [48, 49, 50, 51, 52, 53, 54, 55, 56, 57, 97, 98, 99, 100, 101, 102]) (List.mem_of_getElem? (i := 6) (by kernel_rfl)) (g := 0) (by kernel_rfl) (t := 47) (by kernel_rfl) Tryd.underlying47 Tryd.underlying5 (by kernel_rfl) (by kernel_rfl) (by decide)
  refine ⟨tS, pS, tR, pR, fun b cs hb => ?_⟩
  unfold ro05 at hb
  split at hb
  · cases hb; exact hT
  · cases hb; exact hD
  · cases hb; exact hS
  · cases hb; exact hR
  · cases hb
end Go.Proofs.YtjnonfcemicmoaaDoor.AE
