/-
  A slice of strings that came in: its elements.
-/
import Derived.Test.YtjllakfoeknhdaaMem
import Derived.Deep.Slices
import Derived.Deep.Fields
namespace Go.Proofs.Ytjllakfoeknhdaa
open Go.RowKit
theorem strs_in {H : Type} {enc : TypeId × Value → H} {w : World} {t e : TypeId} {a : Option Addr} {len cap : Nat} {d : DataW H} {p : List MemPlace}
    (ht : Try.prog.underlying t = some (.slice e)) (he : Try.prog.underlying e = some .string) (hC : Try.prog.cellsOf e = 1)
    (h : DataW.Trod enc Try.prog w 0 (fun _ => true) true t (.slice a len cap) d p) :
    ∃ l : List ByteArray, l.length = len ∧ RowAt w a (l.map Value.string) ∧ len ≤ cap ∧ cap ≤ maxLen ∧ ∀ s ∈ l, s.size ≤ maxLen := by
  obtain ⟨fuel, hf⟩ := h
  rcases Deep.open_slice ht hf with ⟨hcs, _⟩ | ⟨x, l, c, m, n, D, Pl, hcs, hb, hl, hm, hmm, hx, hi⟩
  · simp [Value.cells] at hcs
    obtain ⟨rfl, rfl, rfl⟩ := hcs
    exact ⟨[], rfl, RowAt.nil_ _ _, Nat.le_refl _, Nat.zero_le _, by simp⟩
  · simp [Value.cells] at hcs
    obtain ⟨rfl, rfl, rfl⟩ := hcs
    have hmc : m = cap := by simpa using hmm
    subst hmc
    have cell : ∀ i, i < len → ∃ s : ByteArray, w.cell? (x.add i) = some (.string s) ∧ s.size ≤ maxLen := by
      intro i hil
      obtain ⟨cs', hc, ht'⟩ := hi i (by omega)
      rw [hC, Nat.mul_one] at hc
      obtain ⟨_, hcl, hat⟩ := World.cells?_some hc
      obtain ⟨z, hz, _, hwf⟩ := DataW.trod_string he ht'
      subst hz
      have h0 := hat 0 (by simp)
      refine ⟨z, ?_, hwf⟩
      simpa [Addr.add] using h0
    let f : Nat → ByteArray := fun i => if h : i < len then Classical.choose (cell i h) else ByteArray.empty
    have hf : ∀ i, i < len → w.cell? (x.add i) = some (.string (f i)) ∧ (f i).size ≤ maxLen := fun i h => by
      show _ = some (Value.string (if h : i < len then Classical.choose (cell i h) else ByteArray.empty)) ∧ (if h : i < len then Classical.choose (cell i h) else ByteArray.empty).size ≤ maxLen
      rw [dif_pos h]
      exact Classical.choose_spec (cell i h)
    refine ⟨(List.range len).map f, by simp, fun hne => ?_, hl, hm, fun s hs => ?_⟩
    · have hlen0 : 0 < len := by
        rcases Nat.eq_zero_or_pos len with h | h
        · subst h; simp at hne
        · exact h
      have h0 := (hf 0 hlen0).1
      obtain ⟨b, off, spot⟩ := x
      have hspot : spot = none := by simpa [Addr.add] using World.cell?_spot h0
      subst hspot
      refine ⟨b, off, rfl, fun j u hu => ?_⟩
      have hj : j < len := by have := (List.getElem?_eq_some_iff.1 hu).1; simpa using this
      have h1 := (hf j hj).1
      rw [List.getElem?_map, List.getElem?_map, List.getElem?_range hj] at hu
      cases hu
      cases j with
      | zero => simpa [Addr.add] using h1
      | succ j => simpa [Addr.add] using h1
    · obtain ⟨i, hi, rfl⟩ := List.mem_map.1 hs
      exact (hf i (List.mem_range.1 hi)).2
end Go.Proofs.Ytjllakfoeknhdaa
