/-
  Several cells of one block at once; the built-in clear.
-/
import Derived.Test.YtdijakobocnceaaSm
import Derived.Laws.IdiomCopy
import Derived.Lib.SliceRun
namespace Go.Proofs.Ytdijakobocnceaa
set_option maxRecDepth 100000
open Go.RowKit
theorem Bk.setCells {g : Nat} {t : TypeId} : ∀ (vs : List Value) (o : Nat) {w : World} {cs : Array Value}, Bk w g t cs → o + vs.length ≤ cs.size →
    ∃ cs', Bk (w.setCells g o vs) g t cs' ∧ cs'.size = cs.size ∧ ∀ i, cs'[i]? = if o ≤ i ∧ i < o + vs.length then vs[i - o]? else cs[i]?
  | [], o, w, cs, h, _ => ⟨cs, h, rfl, fun i => by rw [if_neg (by simp)]⟩
  | v :: r, o, w, cs, h, hs => by
    obtain ⟨cs', h1, h2, h3⟩ := Bk.setCells r (o + 1) (h.set_ o v) (by simp at hs ⊢; omega)
    refine ⟨cs', h1, by simpa using h2, fun i => ?_⟩
    rw [h3 i]
    simp only [List.length_cons] at hs ⊢
    by_cases hi : i = o
    · subst hi
      rw [if_neg (by omega), if_pos (by omega), Array.getElem?_setIfInBounds_self_of_lt (by omega)]
      simp
    · by_cases hr : o + 1 ≤ i ∧ i < o + 1 + r.length
      · rw [if_pos hr, if_pos (by omega), show i - o = (i - (o + 1)) + 1 by omega, List.getElem?_cons_succ]
      · rw [if_neg hr, if_neg (by omega), Array.getElem?_setIfInBounds_ne (by omega)]
theorem only_setCells (g : Nat) : ∀ (vs : List Value) (o : Nat) (w : World), w.grownBy (w.setCells g o vs) (some g)
  | [], _, w => only_refl w _
  | v :: r, o, w => only_trans (only_set w g o v) (only_setCells g r (o + 1) _)
theorem run_clear_bk {w : World} {g : Nat} {t : TypeId} {cs : Array Value} (h : Bk w g t cs) (ts e ty : TypeId) (z : Value) (L : List Value) (ht : Try.prog.underlying ts = some (.slice e)) (hv : ∀ w, (zeroValue e).run Try.prog w = .ok z w)
    (n c o : Nat) (hL : (Builtin.zeroCells z.cells n).toList = L) (h1 : ∀ v ∈ L, v.oneCell' = true) (hn : 0 < n) (hs : o + L.length ≤ cs.size) :
    (Builtin.clear_ #[ts] ty #[.slice (some ⟨g, o, none⟩) n c]).run Try.prog w = .ok (.tuple #[]) (w.setCells g o L) := by
  have hst := run_storeCells_cells (P := Try.prog) g o L 0 w (fun j hj => by rw [h.cell]; simp; omega) (fun j _ => h.frozen _) h1
  simp only [Nat.add_zero] at hst
  obtain ⟨m, rfl⟩ : ∃ m, n = m + 1 := ⟨n - 1, by omega⟩
  simp [Builtin.clear_, run_underlying ht, hv, hL, hst]
end Go.Proofs.Ytdijakobocnceaa
