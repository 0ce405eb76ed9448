/-
  Words on memory: a slice that reads as a list of values, nil let in.
-/
import Derived.Test.YtonclpgldfknjaaRows
import Derived.WalkKit
import Derived.WalkSpells
import Derived.WalkLawsBesides
import Derived.Lib.Hide
import Derived.OpenShut
namespace Go.Proofs.Ytonclpgldfknjaa
open Go.RowKit
theorem ret_int {k : IntKind} {a b : Int} (h : a = b) : Ending.returned (.int k a) = .returned (.int k b) := by rw [h]
theorem ret_bool {a b : Bool} (h : a = b) : Ending.returned (.bool a) = .returned (.bool b) := by rw [h]
theorem mf_any (fn : Fn) (first cap : Array Value) (w : World) : (Instr.makeFunc fn first cap).run Try.prog w = .ok (.func fn first cap) w := rfl
theorem cell_lt {w : World} {p : Addr} {v : Value} (h : w.cell? p = some v) : p.block < w.heap.size := by
  rcases Nat.lt_or_ge p.block w.heap.size with hlt | hge
  · exact hlt
  · exfalso
    unfold World.cell? at h
    rw [Array.getElem?_eq_none hge] at h
    simp at h
/-- The slice begins at a, and its elements' cells hold xs, one behind the other. -/
def RowAt (w : World) (a : Option Addr) (xs : List Value) : Prop :=
  xs ≠ [] → ∃ b off, a = some ⟨b, off, none⟩ ∧ ∀ (j : Nat) (u : Value), xs[j]? = some u → w.cell? ⟨b, off + j, none⟩ = some u
theorem RowAt.nil_ (w : World) (a : Option Addr) : RowAt w a [] := fun h => absurd rfl h
theorem RowAt.below {w w' : World} {a : Option Addr} {xs : List Value} (h : RowAt w a xs) (hb : Below w.heap.size w w') : RowAt w' a xs := by
  intro hne
  obtain ⟨b, off, e, hc⟩ := h hne
  exact ⟨b, off, e, fun j u hu => (hb.cell (p := ⟨b, off + j, none⟩) (cell_lt (hc j u hu))).trans (hc j u hu)⟩
theorem RowAt.below' {w w' : World} {B : Nat} {a : Option Addr} {xs : List Value} (h : RowAt w a xs) (hb : Below B w w') (hB : w.heap.size ≤ B) : RowAt w' a xs := h.below (hb.mono hB)
theorem RowAt.get {w : World} {a : Option Addr} {xs : List Value} (h : RowAt w a xs) {k : Nat} {v : Value} (hk : xs[k]? = some v) :
    ∃ b off, a = some ⟨b, off, none⟩ ∧ w.cell? ⟨b, off + k, none⟩ = some v := by
  have hne : xs ≠ [] := by rintro rfl; simp at hk
  obtain ⟨b, off, e, hc⟩ := h hne
  exact ⟨b, off, e, hc k v hk⟩
def Ints (w : World) (k : IntKind) (a : Option Addr) (zs : List Int) : Prop := RowAt w a (zs.map (Value.int k))
theorem Ints.below {w w' : World} {k : IntKind} {a : Option Addr} {zs : List Int} (h : Ints w k a zs) (hb : Below w.heap.size w w') : Ints w' k a zs := RowAt.below h hb
theorem Ints.get {w : World} {k : IntKind} {a : Option Addr} {zs : List Int} (h : Ints w k a zs) {i : Nat} (hi : i < zs.length) :
    ∃ b off, a = some ⟨b, off, none⟩ ∧ w.cell? ⟨b, off + i, none⟩ = some (.int k zs[i]) := by
  refine RowAt.get h (k := i) ?_
  simp [List.getElem?_eq_getElem hi]
theorem below3 {a b c : World} (h : Below a.heap.size a b) (k : Below b.heap.size b c) : Below a.heap.size a c := h.trans (k.mono h.size)
/-- A slice of integers that came in: its elements. -/
theorem ints_in {H : Type} {enc : TypeId × Value → H} {w : World} {k : IntKind} {t e : TypeId} {a : Option Addr} {len cap : Nat} {d : DataW H} {p : List MemPlace}
    (ht : Try.prog.underlying t = some (.slice e)) (he : Try.prog.underlying e = some (.int k)) (hC : Try.prog.cellsOf e = 1)
    (h : DataW.Trod enc Try.prog w 0 (fun _ => true) true t (.slice a len cap) d p) :
    ∃ zs : List Int, zs.length = len ∧ Ints w k a zs ∧ len ≤ cap ∧ cap ≤ maxLen ∧ ∀ n ∈ zs, (Lit.int k n).wf = true := by
  obtain ⟨fuel, hf⟩ := h
  rcases ChangeShapes.open_ints ht he hC hf with ⟨hcs, _⟩ | ⟨x, l, c, zs, hcs, _, hl, hm, hz, _, hcell, hwz⟩
  · simp [Value.cells] at hcs
    obtain ⟨rfl, rfl, rfl⟩ := hcs
    exact ⟨[], rfl, RowAt.nil_ _ _, Nat.le_refl _, Nat.zero_le _, by simp⟩
  · simp [Value.cells] at hcs
    obtain ⟨rfl, rfl, rfl⟩ := hcs
    have hzl : zs.length = cap := by simpa using hz
    refine ⟨zs.take len, by rw [List.length_take]; omega, ?_, hl, hm, fun n hn => hwz n (List.mem_of_mem_take hn)⟩
    intro hne
    have hp : 0 < zs.length := by
      rcases zs with _ | ⟨z, zs⟩
      · simp at hne
      · simp
    obtain ⟨b, off, rfl, hcj⟩ := ints_at hcell hp
    refine ⟨b, off, rfl, fun j u hu => ?_⟩
    rw [List.getElem?_map, Option.map_eq_some_iff] at hu
    obtain ⟨z, hz1, rfl⟩ := hu
    have hj : j < (zs.take len).length := (List.getElem?_eq_some_iff.1 hz1).1
    have hj2 : j < zs.length := by rw [List.length_take] at hj; omega
    rw [hcj j hj2]
    have : zs[j]? = some z := by rw [← hz1, List.getElem?_take_of_lt (by rw [List.length_take] at hj; omega)]
    simp [this]
end Go.Proofs.Ytonclpgldfknjaa
