/-
  A slice of structs of one-cell fields (ints, bools, strings): its cells.
-/
import Derived.Test.YtibbeedodlnhjaaMem
import Derived.Deep.Slices
import Derived.Deep.Fields
namespace Go.Proofs.Ytibbeedodlnhjaa
open Go.RowKit
/-- What a cell of a plain type holds. -/
def Typed (t : TypeId) (v : Value) : Prop :=
  (t = 3 → ∃ z : Int, v = .int .i64 z ∧ (Lit.int .i64 z).wf = true) ∧ (t = 4 → ∃ b : Bool, v = .bool b) ∧ (t = 9 → ∃ s : ByteArray, v = .string s ∧ s.size ≤ maxLen)
def FldV (w : World) (a : Option Addr) (len m : Nat) (f : Nat → Nat → Value) : Prop :=
  0 < len → ∃ b off, a = some ⟨b, off, none⟩ ∧ ∀ i j, i < len → j < m → w.cell? ⟨b, off + i * m + j, none⟩ = some (f i j)
theorem FldV.below {w w' : World} {a : Option Addr} {len m : Nat} {f : Nat → Nat → Value} (h : FldV w a len m f) (hb : Below w.heap.size w w') : FldV w' a len m f := by
  intro hl
  obtain ⟨b, off, e, hc⟩ := h hl
  exact ⟨b, off, e, fun i j hi hj => (hb.cell (p := ⟨b, off + i * m + j, none⟩) (cell_lt (hc i j hi hj))).trans (hc i j hi hj)⟩
theorem FldV.get {w : World} {a : Option Addr} {len m : Nat} {f : Nat → Nat → Value} (h : FldV w a len m f) {i : Nat} (hi : i < len) :
    ∃ b off, a = some ⟨b, off, none⟩ ∧ ∀ j, j < m → w.cell? ⟨b, off + i * m + j, none⟩ = some (f i j) := by
  obtain ⟨b, off, e, hc⟩ := h (by omega)
  exact ⟨b, off, e, fun j hj => hc i j hi hj⟩
theorem fldv_in {H : Type} {enc : TypeId × Value → H} {w : World} {t e : TypeId} {fs : Array Field} {a : Option Addr} {len cap : Nat} {d : DataW H} {p : List MemPlace} (ts : List TypeId)
    (ht : Try.prog.underlying t = some (.slice e)) (he : Try.prog.underlying e = some (.struct fs)) (hone : Deep.oneCellFields Try.prog fs = true) (hC : Try.prog.cellsOf e = fs.size)
    (hts : fs.toList.map (·.type) = ts) (hfs : 0 < fs.size)
    (h : DataW.Trod enc Try.prog w 0 (fun _ => true) true t (.slice a len cap) d p) :
    ∃ f : Nat → Nat → Value, FldV w a len ts.length f ∧ len ≤ cap ∧ cap ≤ maxLen ∧ ∀ i j, i < len → j < ts.length → Typed (ts.getD j 0) (f i j) := by
  have hlen : ts.length = fs.size := by rw [← hts]; simp
  obtain ⟨fuel, hf⟩ := h
  rcases Deep.open_slice ht hf with ⟨hcs, _⟩ | ⟨x, l, c, m, n, D, Pl, hcs, hb, hl, hm, hmm, hx, hi⟩
  · simp [Value.cells] at hcs
    obtain ⟨rfl, rfl, rfl⟩ := hcs
    exact ⟨fun _ _ => undef, fun h => absurd h (by omega), Nat.le_refl _, Nat.zero_le _, fun i j hi => absurd hi (by omega)⟩
  · simp [Value.cells] at hcs
    obtain ⟨rfl, rfl, rfl⟩ := hcs
    have hmc : m = cap := by simpa using hmm
    subst hmc
    have cell : ∀ i j, i < len → j < ts.length → ∃ v : Value, w.cell? (x.add (i * ts.length + j)) = some v ∧ Typed (ts.getD j 0) v := by
      intro i j hil hj
      rw [hlen] at hj
      obtain ⟨cs', hc, ht'⟩ := hi i (by omega)
      rw [hC] at hc
      obtain ⟨ys, n', _, _, _, hyl, hfd⟩ := DataW.trod_struct he ht'
      obtain ⟨_, hcl, hat⟩ := World.cells?_some hc
      have hfj : fs[j]? = some fs[j] := Array.getElem?_eq_getElem hj
      obtain ⟨ho, hk⟩ := Deep.hone_of hone j _ hfj
      have h1 := hfd j _ hfj
      have hty : ts.getD j 0 = fs[j].type := by rw [← hts]; simp [hj]
      have hjl : j < cs'.length := by omega
      have hdrop : (cs'.drop j).take 1 = [cs'[j]] := by
        rw [List.drop_eq_getElem_cons hjl]
        rfl
      rw [ho, hk, hdrop, List.getElem?_eq_getElem (by omega)] at h1
      refine ⟨cs'[j], ?_, ?_⟩
      · rw [hlen, ← Deep.add_add, hat j hj, List.getElem?_eq_getElem hjl]
      · rw [hty]
        refine ⟨fun e => ?_, fun e => ?_, fun e => ?_⟩
        · rw [e] at h1
          obtain ⟨z, hz, _, hwf⟩ := DataW.trod_int Try.underlying3 h1
          simp at hz
          exact ⟨z, hz, hwf⟩
        · rw [e] at h1
          obtain ⟨z, hz, _⟩ := DataW.trod_bool Try.underlying4 h1
          simp at hz
          exact ⟨z, hz⟩
        · rw [e] at h1
          obtain ⟨z, hz, _, hwf⟩ := DataW.trod_string Try.underlying9 h1
          simp at hz
          exact ⟨z, hz, hwf⟩
    refine ⟨fun i j => if h : i < len ∧ j < ts.length then Classical.choose (cell i j h.1 h.2) else undef, fun hlen0 => ?_, hl, hm, fun i j hi hj => ?_⟩
    · have h0 := Classical.choose_spec (cell 0 0 hlen0 (by omega))
      obtain ⟨b, off, spot⟩ := x
      have hspot : spot = none := by simpa [Addr.add] using World.cell?_spot h0.1
      subst hspot
      refine ⟨b, off, rfl, fun i j hi hj => ?_⟩
      have h1 := Classical.choose_spec (cell i j hi hj)
      dsimp only
      rw [dif_pos ⟨hi, hj⟩, ← h1.1, Go.WideShapes.add_plain, Nat.add_assoc]
    · dsimp only
      rw [dif_pos ⟨hi, hj⟩]
      exact (Classical.choose_spec (cell i j hi hj)).2
end Go.Proofs.Ytibbeedodlnhjaa
