/-
  Numbers' texts, and texts' numbers: by the library's contracts.
-/
import Derived.Test.YtodjeammjdgkoaaDoorAECount
import Derived.Lib.AppendIntMem
namespace Go.Proofs.YtodjeammjdgkoaaDoor
open Go.RowKit
theorem tab_below {W W' : World} {B : Nat} {name : String} {k : IntKind} {zs : List Int} {g : Nat} (hg : Tryd.prog.globalNamed name = some g) (h : Lib.TabIs Tryd.prog W name k zs) (hb : Below B W W') (hB : g < B) : Lib.TabIs Tryd.prog W' name k zs := by
  unfold Lib.TabIs World.var? at *
  rw [hg] at *
  simp only [Option.bind_some] at *
  rw [hb.block g hB]
  exact h
theorem dtext (n : Int) (h0 : -9223372036854775808 ≤ n) (h1 : n ≤ 9223372036854775807) (w : World) (hT : Lib.TabIs Tryd.prog w "internal/strconv.uint64pow10" .u64 Lib.pow10Tab) :
    Calls Tryd.prog 26 #[.int .i64 n] w fun e w' => e = .returned (.string ⟨(Lib.itoa n).toArray⟩) ∧ Below w.heap.size w w' := by
  go_enter Tryd.func26, Tryd.ntmps26
  go_wp2_with (go_at_call 45; refine (Tryd.strconv_Itoa _ h0 h1 _ hT).mono ?_; rintro e w' ⟨rfl, k, os, rfl⟩)
  go_ret
  exact ⟨rfl, Lib.below_grow _ _ (Nat.le_refl _) _ _⟩
end Go.Proofs.YtodjeammjdgkoaaDoor
