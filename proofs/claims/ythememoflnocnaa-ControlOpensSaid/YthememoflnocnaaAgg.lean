/-
  Arrays of ints, and structs of ints, that come in by value.
-/
import Derived.Test.YthememoflnocnaaMem
import Derived.Deep.Fields
namespace Go.Proofs.Ythememoflnocnaa
set_option maxRecDepth 100000
open Go.RowKit
set_option maxRecDepth 100000 in
theorem arr_cells {H : Type} {enc : TypeId × Value → H} {w : World} {base : Nat} {k : IntKind} {n : Nat} {t e : TypeId} {v : Value} {d : DataW H} {p : List MemPlace}
    (ht : Try.prog.underlying t = some (.array n e)) (he : Try.prog.underlying e = some (.int k)) (hC : Try.prog.cellsOf e = 1) (hT : Try.prog.cellsOf t = n)
    (hv : Value.okWide Try.prog w .any base t v) (h : DataW.Trod enc Try.prog w 0 (fun _ => true) true t v d p) :
    ∃ cs : Array Value, v = .agg cs ∧ cs.size = n ∧ ∀ i, i < n → ∃ z : Int, cs[i]? = some (.int k z) ∧ (Lit.int k z).wf = true := by
  obtain ⟨cs, rfl, hsz⟩ : ∃ cs, v = .agg cs ∧ cs.size = Try.prog.cellsOf t := by
    simp only [Value.okWide, ht] at hv
    obtain ⟨cs, h1, h2, _⟩ := hv
    exact ⟨cs, h1, h2⟩
  rw [hT] at hsz
  refine ⟨cs, rfl, hsz, fun i hi => ?_⟩
  obtain ⟨fuel, hf⟩ := h
  obtain ⟨xs, m, _, _, _, hxl, hx⟩ := DataW.trod_array ht hf
  have h1 := hx i hi
  rw [hC, Nat.mul_one] at h1
  have hil : i < cs.toList.length := by simpa [hsz] using hi
  have hdrop : ((Value.agg cs).cells.toList.drop i).take 1 = [cs.toList[i]] := by
    show (cs.toList.drop i).take 1 = _
    rw [List.drop_eq_getElem_cons hil]
    rfl
  rw [hdrop, List.getElem?_eq_getElem (by omega)] at h1
  obtain ⟨z, hz, _, hwf⟩ := DataW.trod_int he h1
  refine ⟨z, ?_, hwf⟩
  simp at hz
  rw [Array.getElem?_eq_getElem (by omega), hz]
set_option maxRecDepth 100000 in
theorem arr2_of {k : IntKind} {cs : Array Value} (hs : cs.size = 2) (h : ∀ i, i < 2 → ∃ z : Int, cs[i]? = some (.int k z) ∧ (Lit.int k z).wf = true) :
    ∃ a b : Int, cs = #[.int k a, .int k b] ∧ (Lit.int k a).wf = true ∧ (Lit.int k b).wf = true := by
  obtain ⟨a, ha, wa⟩ := h 0 (by omega)
  obtain ⟨b, hb, wb⟩ := h 1 (by omega)
  refine ⟨a, b, ?_, wa, wb⟩
  apply Array.ext_getElem?
  intro i
  match i with
  | 0 => rw [ha]; rfl
  | 1 => rw [hb]; rfl
  | i + 2 => rw [Array.getElem?_eq_none (by omega), Array.getElem?_eq_none (by simp)]
set_option maxRecDepth 100000 in
theorem arr3_of {k : IntKind} {cs : Array Value} (hs : cs.size = 3) (h : ∀ i, i < 3 → ∃ z : Int, cs[i]? = some (.int k z) ∧ (Lit.int k z).wf = true) :
    ∃ a b c : Int, cs = #[.int k a, .int k b, .int k c] ∧ (Lit.int k a).wf = true ∧ (Lit.int k b).wf = true ∧ (Lit.int k c).wf = true := by
  obtain ⟨a, ha, wa⟩ := h 0 (by omega)
  obtain ⟨b, hb, wb⟩ := h 1 (by omega)
  obtain ⟨c, hc, wc⟩ := h 2 (by omega)
  refine ⟨a, b, c, ?_, wa, wb, wc⟩
  apply Array.ext_getElem?
  intro i
  match i with
  | 0 => rw [ha]; rfl
  | 1 => rw [hb]; rfl
  | 2 => rw [hc]; rfl
  | i + 3 => rw [Array.getElem?_eq_none (by omega), Array.getElem?_eq_none (by simp)]
set_option maxRecDepth 100000 in
theorem arr2_in {H : Type} {enc : TypeId × Value → H} {w : World} {base : Nat} {k : IntKind} {t e : TypeId} {v : Value} {d : DataW H} {p : List MemPlace}
    (ht : Try.prog.underlying t = some (.array 2 e)) (he : Try.prog.underlying e = some (.int k)) (hC : Try.prog.cellsOf e = 1) (hT : Try.prog.cellsOf t = 2)
    (hv : Value.okWide Try.prog w .any base t v) (h : DataW.Trod enc Try.prog w 0 (fun _ => true) true t v d p) :
    ∃ a b : Int, v = .agg #[.int k a, .int k b] ∧ (Lit.int k a).wf = true ∧ (Lit.int k b).wf = true := by
  obtain ⟨cs, rfl, hs, hc⟩ := arr_cells ht he hC hT hv h
  obtain ⟨a, b, rfl, wa, wb⟩ := arr2_of hs hc
  exact ⟨a, b, rfl, wa, wb⟩
set_option maxRecDepth 100000 in
theorem arr3_in {H : Type} {enc : TypeId × Value → H} {w : World} {base : Nat} {k : IntKind} {t e : TypeId} {v : Value} {d : DataW H} {p : List MemPlace}
    (ht : Try.prog.underlying t = some (.array 3 e)) (he : Try.prog.underlying e = some (.int k)) (hC : Try.prog.cellsOf e = 1) (hT : Try.prog.cellsOf t = 3)
    (hv : Value.okWide Try.prog w .any base t v) (h : DataW.Trod enc Try.prog w 0 (fun _ => true) true t v d p) :
    ∃ a b c : Int, v = .agg #[.int k a, .int k b, .int k c] ∧ (Lit.int k a).wf = true ∧ (Lit.int k b).wf = true ∧ (Lit.int k c).wf = true := by
  obtain ⟨cs, rfl, hs, hc⟩ := arr_cells ht he hC hT hv h
  obtain ⟨a, b, c, rfl, wa, wb, wc⟩ := arr3_of hs hc
  exact ⟨a, b, c, rfl, wa, wb, wc⟩
set_option maxRecDepth 100000 in
/-- A struct of ints by value: its cells. -/
theorem str_cells {H : Type} {enc : TypeId × Value → H} {w : World} {base : Nat} {fs : Array Field} {t : TypeId} {v : Value} {d : DataW H} {p : List MemPlace}
    (ht : Try.prog.underlying t = some (.struct fs)) (hone : Deep.oneCellFields Try.prog fs = true) (hT : Try.prog.cellsOf t = fs.size) (hint : fs.toList.all (fun f => f.type == 3) = true)
    (hv : Value.okWide Try.prog w .any base t v) (h : DataW.Trod enc Try.prog w 0 (fun _ => true) true t v d p) :
    ∃ f : Nat → Int, v = .agg ((List.range fs.size).map fun i => Value.int .i64 (f i)).toArray ∧ ∀ i, i < fs.size → (Lit.int .i64 (f i)).wf = true := by
  obtain ⟨cs, rfl, hsz⟩ := WideShapes.okWide_struct ht hv
  rw [hT] at hsz
  obtain ⟨fuel, hf⟩ := h
  obtain ⟨xs, m, _, _, _, hxl, hx⟩ := DataW.trod_struct ht hf
  have cell : ∀ i, i < fs.size → ∃ z : Int, cs[i]? = some (.int .i64 z) ∧ (Lit.int .i64 z).wf = true := by
    intro i hi
    have hfi : fs[i]? = some fs[i] := Array.getElem?_eq_getElem hi
    obtain ⟨ho, hk⟩ := Deep.hone_of hone i _ hfi
    have h1 := hx i _ hfi
    have hty : fs[i].type = 3 := by
      have := List.all_eq_true.1 hint fs[i] (by simp)
      simpa using this
    have hil : i < cs.toList.length := by simpa [hsz] using hi
    have hdrop : ((Value.agg cs).cells.toList.drop i).take 1 = [cs.toList[i]] := by
      show (cs.toList.drop i).take 1 = _
      rw [List.drop_eq_getElem_cons hil]
      rfl
    rw [ho, hk, hdrop, hty, List.getElem?_eq_getElem (by omega)] at h1
    obtain ⟨z, hz, _, hwf⟩ := DataW.trod_int Try.underlying3 h1
    refine ⟨z, ?_, hwf⟩
    simp at hz
    rw [Array.getElem?_eq_getElem (by omega), hz]
  refine ⟨fun i => if h : i < fs.size then Classical.choose (cell i h) else 0, ?_, fun i hi => ?_⟩
  · congr 1
    apply Array.ext_getElem?
    intro i
    by_cases hi : i < fs.size
    · have h1 := (Classical.choose_spec (cell i hi)).1
      rw [h1]
      simp [hi]
    · rw [Array.getElem?_eq_none (by omega)]
      symm
      apply Array.getElem?_eq_none
      simp
      omega
  · dsimp only
    rw [dif_pos hi]
    exact (Classical.choose_spec (cell i hi)).2
set_option maxRecDepth 100000 in
theorem str7_in {H : Type} {enc : TypeId × Value → H} {w : World} {base : Nat} {fs : Array Field} {t : TypeId} {v : Value} {d : DataW H} {p : List MemPlace}
    (ht : Try.prog.underlying t = some (.struct fs)) (hone : Deep.oneCellFields Try.prog fs = true) (hT : Try.prog.cellsOf t = fs.size) (hint : fs.toList.all (fun f => f.type == 3) = true) (h7 : fs.size = 7)
    (hv : Value.okWide Try.prog w .any base t v) (h : DataW.Trod enc Try.prog w 0 (fun _ => true) true t v d p) :
    ∃ f : Nat → Int, v = .agg #[.int .i64 (f 0), .int .i64 (f 1), .int .i64 (f 2), .int .i64 (f 3), .int .i64 (f 4), .int .i64 (f 5), .int .i64 (f 6)] ∧ ∀ i, i < 7 → (Lit.int .i64 (f i)).wf = true := by
  obtain ⟨f, hv', hw⟩ := str_cells ht hone hT hint hv h
  rw [h7] at hv' hw
  exact ⟨f, hv', hw⟩
set_option maxRecDepth 100000 in
theorem str2_in {H : Type} {enc : TypeId × Value → H} {w : World} {base : Nat} {fs : Array Field} {t : TypeId} {v : Value} {d : DataW H} {p : List MemPlace}
    (ht : Try.prog.underlying t = some (.struct fs)) (hone : Deep.oneCellFields Try.prog fs = true) (hT : Try.prog.cellsOf t = fs.size) (hint : fs.toList.all (fun f => f.type == 3) = true) (h7 : fs.size = 2)
    (hv : Value.okWide Try.prog w .any base t v) (h : DataW.Trod enc Try.prog w 0 (fun _ => true) true t v d p) :
    ∃ f : Nat → Int, v = .agg #[.int .i64 (f 0), .int .i64 (f 1)] ∧ ∀ i, i < 2 → (Lit.int .i64 (f i)).wf = true := by
  obtain ⟨f, hv', hw⟩ := str_cells ht hone hT hint hv h
  rw [h7] at hv' hw
  exact ⟨f, hv', hw⟩
set_option maxRecDepth 100000 in
theorem str3_in {H : Type} {enc : TypeId × Value → H} {w : World} {base : Nat} {fs : Array Field} {t : TypeId} {v : Value} {d : DataW H} {p : List MemPlace}
    (ht : Try.prog.underlying t = some (.struct fs)) (hone : Deep.oneCellFields Try.prog fs = true) (hT : Try.prog.cellsOf t = fs.size) (hint : fs.toList.all (fun f => f.type == 3) = true) (h7 : fs.size = 3)
    (hv : Value.okWide Try.prog w .any base t v) (h : DataW.Trod enc Try.prog w 0 (fun _ => true) true t v d p) :
    ∃ f : Nat → Int, v = .agg #[.int .i64 (f 0), .int .i64 (f 1), .int .i64 (f 2)] ∧ ∀ i, i < 3 → (Lit.int .i64 (f i)).wf = true := by
  obtain ⟨f, hv', hw⟩ := str_cells ht hone hT hint hv h
  rw [h7] at hv' hw
  exact ⟨f, hv', hw⟩
set_option maxRecDepth 100000 in
theorem str4_in {H : Type} {enc : TypeId × Value → H} {w : World} {base : Nat} {fs : Array Field} {t : TypeId} {v : Value} {d : DataW H} {p : List MemPlace}
    (ht : Try.prog.underlying t = some (.struct fs)) (hone : Deep.oneCellFields Try.prog fs = true) (hT : Try.prog.cellsOf t = fs.size) (hint : fs.toList.all (fun f => f.type == 3) = true) (h7 : fs.size = 4)
    (hv : Value.okWide Try.prog w .any base t v) (h : DataW.Trod enc Try.prog w 0 (fun _ => true) true t v d p) :
    ∃ f : Nat → Int, v = .agg #[.int .i64 (f 0), .int .i64 (f 1), .int .i64 (f 2), .int .i64 (f 3)] ∧ ∀ i, i < 4 → (Lit.int .i64 (f i)).wf = true := by
  obtain ⟨f, hv', hw⟩ := str_cells ht hone hT hint hv h
  rw [h7] at hv' hw
  exact ⟨f, hv', hw⟩
set_option maxRecDepth 100000 in
theorem str5_in {H : Type} {enc : TypeId × Value → H} {w : World} {base : Nat} {fs : Array Field} {t : TypeId} {v : Value} {d : DataW H} {p : List MemPlace}
    (ht : Try.prog.underlying t = some (.struct fs)) (hone : Deep.oneCellFields Try.prog fs = true) (hT : Try.prog.cellsOf t = fs.size) (hint : fs.toList.all (fun f => f.type == 3) = true) (h7 : fs.size = 5)
    (hv : Value.okWide Try.prog w .any base t v) (h : DataW.Trod enc Try.prog w 0 (fun _ => true) true t v d p) :
    ∃ f : Nat → Int, v = .agg #[.int .i64 (f 0), .int .i64 (f 1), .int .i64 (f 2), .int .i64 (f 3), .int .i64 (f 4)] ∧ ∀ i, i < 5 → (Lit.int .i64 (f i)).wf = true := by
  obtain ⟨f, hv', hw⟩ := str_cells ht hone hT hint hv h
  rw [h7] at hv' hw
  exact ⟨f, hv', hw⟩
set_option maxRecDepth 100000 in
theorem str6_in {H : Type} {enc : TypeId × Value → H} {w : World} {base : Nat} {fs : Array Field} {t : TypeId} {v : Value} {d : DataW H} {p : List MemPlace}
    (ht : Try.prog.underlying t = some (.struct fs)) (hone : Deep.oneCellFields Try.prog fs = true) (hT : Try.prog.cellsOf t = fs.size) (hint : fs.toList.all (fun f => f.type == 3) = true) (h7 : fs.size = 6)
    (hv : Value.okWide Try.prog w .any base t v) (h : DataW.Trod enc Try.prog w 0 (fun _ => true) true t v d p) :
    ∃ f : Nat → Int, v = .agg #[.int .i64 (f 0), .int .i64 (f 1), .int .i64 (f 2), .int .i64 (f 3), .int .i64 (f 4), .int .i64 (f 5)] ∧ ∀ i, i < 6 → (Lit.int .i64 (f i)).wf = true := by
  obtain ⟨f, hv', hw⟩ := str_cells ht hone hT hint hv h
  rw [h7] at hv' hw
  exact ⟨f, hv', hw⟩
set_option maxRecDepth 100000 in
theorem str8_in {H : Type} {enc : TypeId × Value → H} {w : World} {base : Nat} {fs : Array Field} {t : TypeId} {v : Value} {d : DataW H} {p : List MemPlace}
    (ht : Try.prog.underlying t = some (.struct fs)) (hone : Deep.oneCellFields Try.prog fs = true) (hT : Try.prog.cellsOf t = fs.size) (hint : fs.toList.all (fun f => f.type == 3) = true) (h7 : fs.size = 8)
    (hv : Value.okWide Try.prog w .any base t v) (h : DataW.Trod enc Try.prog w 0 (fun _ => true) true t v d p) :
    ∃ f : Nat → Int, v = .agg #[.int .i64 (f 0), .int .i64 (f 1), .int .i64 (f 2), .int .i64 (f 3), .int .i64 (f 4), .int .i64 (f 5), .int .i64 (f 6), .int .i64 (f 7)] ∧ ∀ i, i < 8 → (Lit.int .i64 (f i)).wf = true := by
  obtain ⟨f, hv', hw⟩ := str_cells ht hone hT hint hv h
  rw [h7] at hv' hw
  exact ⟨f, hv', hw⟩
set_option maxRecDepth 100000 in
theorem str9_in {H : Type} {enc : TypeId × Value → H} {w : World} {base : Nat} {fs : Array Field} {t : TypeId} {v : Value} {d : DataW H} {p : List MemPlace}
    (ht : Try.prog.underlying t = some (.struct fs)) (hone : Deep.oneCellFields Try.prog fs = true) (hT : Try.prog.cellsOf t = fs.size) (hint : fs.toList.all (fun f => f.type == 3) = true) (h7 : fs.size = 9)
    (hv : Value.okWide Try.prog w .any base t v) (h : DataW.Trod enc Try.prog w 0 (fun _ => true) true t v d p) :
    ∃ f : Nat → Int, v = .agg #[.int .i64 (f 0), .int .i64 (f 1), .int .i64 (f 2), .int .i64 (f 3), .int .i64 (f 4), .int .i64 (f 5), .int .i64 (f 6), .int .i64 (f 7), .int .i64 (f 8)] ∧ ∀ i, i < 9 → (Lit.int .i64 (f i)).wf = true := by
  obtain ⟨f, hv', hw⟩ := str_cells ht hone hT hint hv h
  rw [h7] at hv' hw
  exact ⟨f, hv', hw⟩
set_option maxRecDepth 100000 in
theorem str10_in {H : Type} {enc : TypeId × Value → H} {w : World} {base : Nat} {fs : Array Field} {t : TypeId} {v : Value} {d : DataW H} {p : List MemPlace}
    (ht : Try.prog.underlying t = some (.struct fs)) (hone : Deep.oneCellFields Try.prog fs = true) (hT : Try.prog.cellsOf t = fs.size) (hint : fs.toList.all (fun f => f.type == 3) = true) (h7 : fs.size = 10)
    (hv : Value.okWide Try.prog w .any base t v) (h : DataW.Trod enc Try.prog w 0 (fun _ => true) true t v d p) :
    ∃ f : Nat → Int, v = .agg #[.int .i64 (f 0), .int .i64 (f 1), .int .i64 (f 2), .int .i64 (f 3), .int .i64 (f 4), .int .i64 (f 5), .int .i64 (f 6), .int .i64 (f 7), .int .i64 (f 8), .int .i64 (f 9)] ∧ ∀ i, i < 10 → (Lit.int .i64 (f i)).wf = true := by
  obtain ⟨f, hv', hw⟩ := str_cells ht hone hT hint hv h
  rw [h7] at hv' hw
  exact ⟨f, hv', hw⟩
end Go.Proofs.Ythememoflnocnaa
