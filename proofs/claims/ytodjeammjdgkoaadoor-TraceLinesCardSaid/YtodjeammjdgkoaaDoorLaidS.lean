/-
  What a row's list of variables says of an array of texts.
-/
import Derived.Test.YtodjeammjdgkoaaDoorLaid
namespace Go.Proofs.YtodjeammjdgkoaaDoor.AE
open Go.RowKit
theorem cells_of_strs {P : Program} {w : World} {base : Nat} {sp : Nat → Bool} {held : Bool} {fuel : Nat} {t e : TypeId} {n : Nat} {cs : List Value} {zs : List (List UInt8)} {p : List MemPlace}
    (ht : P.underlying t = some (.array n e)) (he : P.underlying e = some .string) (hce : P.cellsOf e = 1) (hct : P.cellsOf t = n)
    (h : DataW.trod (fun _ => ()) P w base sp held fuel t cs = some (.agg (zs.map fun z => .lit (.string z)), p)) : cs = zs.map fun z => Value.string ⟨z.toArray⟩ := by
  cases fuel with
  | zero => simp [DataW.trod] at h
  | succ fuel =>
    simp only [DataW.trod, ht, hce, hct, Nat.mul_one] at h
    split at h
    · rename_i hl
      obtain ⟨xs, hm, hx⟩ := Option.map_eq_some_iff.1 h
      have hxs : xs.map (·.1) = zs.map fun z => (DataW.lit (.string z) : DataW Unit) := by
        have := congrArg Prod.fst hx
        simpa using this
      have hxl : xs.length = n := by simpa using Lib.mapM_length hm
      have hzl : zs.length = n := by
        have := congrArg List.length hxs
        simp at this
        omega
      apply List.ext_getElem?
      intro i
      by_cases hi : i < n
      · obtain ⟨b, hb, hf⟩ := Lib.mapM_at hm i i (by simp [hi])
        obtain ⟨s, hc, rfl, _⟩ := DataW.trod_string he hf
        have h1 : cs[i]? = some (.string s) := by
          have := congrArg (·[0]?) hc
          simpa [List.getElem?_take, List.getElem?_drop] using this
        have h2 : (xs.map (·.1))[i]? = some (DataW.lit (.string s.data.toList) : DataW Unit) := by simp [hb]
        rw [hxs] at h2
        simp only [List.getElem?_map, Option.map_eq_some_iff, DataW.lit.injEq, Lit.string.injEq] at h2
        obtain ⟨z', hz', h3⟩ := h2
        have h4 : s = ⟨z'.toArray⟩ := by
          rw [h3]
        rw [h1, List.getElem?_map, hz', h4]; rfl
      · rw [List.getElem?_eq_none (by omega), List.getElem?_eq_none (by simp; omega)]
    · cases h
theorem laid_strs {P : Program} {W : World} {l : List (String × DataW Unit)} (hL : laidMet P l W) {name : String} {zs : List (List UInt8)} (h : (name, .agg (zs.map fun z => .lit (.string z))) ∈ l) {g : Nat} {t e : TypeId} {n : Nat} (hg : P.globalNamed name = some g)
    (hty : (P.globals[g]?).map (·.type) = some t) (ht : P.underlying t = some (.array n e)) (he : P.underlying e = some .string) (hce : P.cellsOf e = 1) (hct : P.cellsOf t = n) (h0 : 0 < zs.length) :
    (∀ (j : Nat) (u : Value), (zs.map fun z => Value.string ⟨z.toArray⟩)[j]? = some u → (G0 W).prot g j ∧ W.cell? ⟨g, j, none⟩ = some u) ∧ ¬ (G0 W).own g ∧ ∃ t, W.heap[g]? = some (.cells (zs.map fun z => Value.string ⟨z.toArray⟩).toArray t (0, 0)) := by
  obtain ⟨t', cs, fuel, p, h2, h3, h4, h5⟩ := laid_block hL h hg
  rw [hty] at h2
  cases h2
  have hcs := cells_of_strs ht he hce hct h4
  have hsz : cs.size = zs.length := by
    have := congrArg List.length hcs
    simpa using this
  obtain ⟨e', hb⟩ := h5 (by omega)
  have ha : cs = (zs.map fun z => Value.string ⟨z.toArray⟩).toArray := by rw [← hcs]
  rw [ha] at hb
  refine ⟨fun j u hu => ⟨?_, ?_⟩, fun o => o, e', hb⟩
  · show g < W.heap.size
    by_cases hlt : g < W.heap.size
    · exact hlt
    · rw [Array.getElem?_eq_none (by omega)] at hb; cases hb
  · simp only [World.cell?, hb]
    simpa using hu
end Go.Proofs.YtodjeammjdgkoaaDoor.AE
