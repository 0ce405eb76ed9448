/-
  A slice of structs whose fields are ints, one cell each: its cells.
-/
import Derived.Test.YtbfeoggdalepmaaMem
import Derived.Deep.Slices
import Derived.Deep.Fields
namespace Go.Proofs.Ytbfeoggdalepmaa
set_option maxRecDepth 100000
open Go.RowKit
/-- Element i's field j holds f i j. -/
def Fld (w : World) (a : Option Addr) (len m : Nat) (f : Nat → Nat → Int) : Prop :=
  0 < len → ∃ b off, a = some ⟨b, off, none⟩ ∧ ∀ i j, i < len → j < m → w.cell? ⟨b, off + i * m + j, none⟩ = some (.int .i64 (f i j))
theorem Fld.below {w w' : World} {a : Option Addr} {len m : Nat} {f : Nat → Nat → Int} (h : Fld w a len m f) (hb : Below w.heap.size w w') : Fld w' a len m f := by
  intro hl
  obtain ⟨b, off, e, hc⟩ := h hl
  exact ⟨b, off, e, fun i j hi hj => (hb.cell (p := ⟨b, off + i * m + j, none⟩) (cell_lt (hc i j hi hj))).trans (hc i j hi hj)⟩
theorem Fld.get {w : World} {a : Option Addr} {len m : Nat} {f : Nat → Nat → Int} (h : Fld w a len m f) {i : Nat} (hi : i < len) :
    ∃ b off, a = some ⟨b, off, none⟩ ∧ ∀ j, j < m → w.cell? ⟨b, off + i * m + j, none⟩ = some (.int .i64 (f i j)) := by
  obtain ⟨b, off, e, hc⟩ := h (by omega)
  exact ⟨b, off, e, fun j hj => hc i j hi hj⟩
theorem fld_bk {w : World} {g : Nat} {t : TypeId} {cs : Array Value} (h : Bk w g t cs) {n m : Nat} {f : Nat → Nat → Int} (hc : ∀ i j, i < n → j < m → cs[i * m + j]? = some (.int .i64 (f i j))) : Fld w (some ⟨g, 0, none⟩) n m f :=
  fun _ => ⟨g, 0, rfl, fun i j hi hj => by rw [Nat.zero_add]; exact (h.cell _).trans (hc i j hi hj)⟩
theorem fld_in {H : Type} {enc : TypeId × Value → H} {w : World} {t e : TypeId} {fs : Array Field} {a : Option Addr} {len cap : Nat} {d : DataW H} {p : List MemPlace}
    (ht : Try.prog.underlying t = some (.slice e)) (he : Try.prog.underlying e = some (.struct fs)) (hone : Deep.oneCellFields Try.prog fs = true) (hC : Try.prog.cellsOf e = fs.size)
    (hint : fs.toList.all (fun f => f.type == 3) = true) (hfs : 0 < fs.size)
    (h : DataW.Trod enc Try.prog w 0 (fun _ => true) true t (.slice a len cap) d p) :
    ∃ f : Nat → Nat → Int, Fld w a len fs.size f ∧ len ≤ cap ∧ cap ≤ maxLen ∧ ∀ i j, i < len → j < fs.size → (Lit.int .i64 (f i j)).wf = true := by
  obtain ⟨fuel, hf⟩ := h
  rcases Deep.open_slice ht hf with ⟨hcs, _⟩ | ⟨x, l, c, m, n, D, Pl, hcs, hb, hl, hm, hmm, hx, hi⟩
  · simp [Value.cells] at hcs
    obtain ⟨rfl, rfl, rfl⟩ := hcs
    exact ⟨fun _ _ => 0, fun h => absurd h (by omega), Nat.le_refl _, Nat.zero_le _, fun i j hi => absurd hi (by omega)⟩
  · simp [Value.cells] at hcs
    obtain ⟨rfl, rfl, rfl⟩ := hcs
    have hmc : m = cap := by simpa using hmm
    subst hmc
    have cell : ∀ i j, i < len → j < fs.size → ∃ z : Int, w.cell? (x.add (i * fs.size + j)) = some (.int .i64 z) ∧ (Lit.int .i64 z).wf = true := by
      intro i j hil hj
      obtain ⟨cs', hc, ht'⟩ := hi i (by omega)
      rw [hC] at hc
      obtain ⟨ys, n', _, _, _, hyl, hfd⟩ := DataW.trod_struct he ht'
      obtain ⟨_, hcl, hat⟩ := World.cells?_some hc
      have hfj : fs[j]? = some fs[j] := Array.getElem?_eq_getElem hj
      obtain ⟨ho, hk⟩ := Deep.hone_of hone j _ hfj
      have h1 := hfd j _ hfj
      have hty : fs[j].type = 3 := by
        have := List.all_eq_true.1 hint fs[j] (by simp)
        simpa using this
      have hjl : j < cs'.length := by omega
      have hdrop : (cs'.drop j).take 1 = [cs'[j]] := by
        rw [List.drop_eq_getElem_cons hjl]
        rfl
      rw [ho, hk, hdrop, hty] at h1
      rw [List.getElem?_eq_getElem (by omega)] at h1
      obtain ⟨z, hz, _, hwf⟩ := DataW.trod_int Try.underlying3 h1
      refine ⟨z, ?_, hwf⟩
      rw [← Deep.add_add, hat j hj, List.getElem?_eq_getElem hjl]
      simp at hz
      rw [hz]
    refine ⟨fun i j => if h : i < len ∧ j < fs.size then Classical.choose (cell i j h.1 h.2) else 0, fun hlen => ?_, hl, hm, fun i j hi hj => ?_⟩
    · have h0 := Classical.choose_spec (cell 0 0 hlen hfs)
      obtain ⟨b, off, spot⟩ := x
      have hspot : spot = none := by simpa [Addr.add] using World.cell?_spot h0.1
      subst hspot
      refine ⟨b, off, rfl, fun i j hi hj => ?_⟩
      have h1 := Classical.choose_spec (cell i j hi hj)
      dsimp only
      rw [dif_pos ⟨hi, hj⟩, ← h1.1, Go.WideShapes.add_plain, Nat.add_assoc]
    · dsimp only
      rw [dif_pos ⟨hi, hj⟩]
      exact (Classical.choose_spec (cell i j hi hj)).2
end Go.Proofs.Ytbfeoggdalepmaa
