/-
  What comes in: structs, in structs, of ints.
-/
import Derived.Test.YtdijakobocnceaaAETr
import Derived.ChangeArms
import Derived.WideShapes
import Derived.ProofKit
namespace Go.Proofs.Ytdijakobocnceaa
set_option maxRecDepth 100000
open Go.RowKit
/-- Fields that lie one behind the other, from a place on; how many cells they have. -/
def lieFrom (P : Program) : List Field → Nat → Option Nat
  | [], k => some k
  | f :: l, k => match decide (f.offset = k) with
    | true => lieFrom P l (k + P.cellsOf f.type)
    | false => none
def allInts (P : Program) : Nat → TypeId → Bool
  | 0, _ => false
  | d + 1, t => match P.underlying t with
    | some (.int .i64) => decide (P.cellsOf t = 1)
    | some (.struct fs) => (lieFrom P fs.toList 0 == some (P.cellsOf t)) && fs.toList.all fun f => allInts P d f.type
    | _ => false
section
variable {H : Type} {enc : TypeId × Value → H} {P : Program} {w : World} {base : Nat} {sp : Nat → Bool} {held : Bool}
theorem ints_fields {d : Nat} (ih : ∀ t fuel cs x, allInts P d t = true → DataW.trod enc P w base sp held fuel t cs = some x → ∃ l : List Int, cs = l.map (Value.int .i64) ∧ l.length = P.cellsOf t ∧ ∀ n ∈ l, (Lit.int .i64 n).wf = true) (cs : List Value) (fuel : Nat) :
    ∀ (fs : List Field) (k z : Nat), lieFrom P fs k = some z → z = cs.length → k ≤ cs.length → fs.all (fun f => allInts P d f.type) = true → (∀ f ∈ fs, ∃ x, DataW.trod enc P w base sp held fuel f.type ((cs.drop f.offset).take (P.cellsOf f.type)) = some x) →
      ∃ l : List Int, cs.drop k = l.map (Value.int .i64) ∧ k + l.length = cs.length ∧ ∀ n ∈ l, (Lit.int .i64 n).wf = true
  | [], k, z, h1, h2, _, _, _ => by
    cases h1
    exact ⟨[], by rw [h2]; simp, by simp [h2], by simp⟩
  | f :: fs, k, z, h1, h2, h3, h4, h5 => by
    unfold lieFrom at h1
    split at h1
    · rename_i ho
      have ho := of_decide_eq_true ho
      simp only [List.all_cons, Bool.and_eq_true] at h4
      obtain ⟨x, hx⟩ := h5 f (List.mem_cons_self ..)
      obtain ⟨l1, e1, e2, e3⟩ := ih _ _ _ _ h4.1 hx
      rw [ho] at e1
      have hlen : ((cs.drop k).take (P.cellsOf f.type)).length = P.cellsOf f.type := by rw [e1, List.length_map, e2]
      rw [List.length_take, List.length_drop] at hlen
      obtain ⟨l2, g1, g2, g3⟩ := ints_fields ih cs fuel fs (k + P.cellsOf f.type) z h1 h2 (by omega) h4.2 (fun f hf => h5 f (List.mem_cons_of_mem _ hf))
      refine ⟨l1 ++ l2, ?_, by rw [List.length_append, e2]; omega, fun n hn => ?_⟩
      · rw [List.map_append, ← e1, ← g1, ← List.drop_drop, List.take_append_drop]
      · rcases List.mem_append.1 hn with hn | hn
        · exact e3 n hn
        · exact g3 n hn
    · cases h1
theorem trod_ints : ∀ (d : Nat) (t : TypeId) (fuel : Nat) (cs : List Value) (x : DataW H × List MemPlace), allInts P d t = true → DataW.trod enc P w base sp held fuel t cs = some x → ∃ l : List Int, cs = l.map (Value.int .i64) ∧ l.length = P.cellsOf t ∧ ∀ n ∈ l, (Lit.int .i64 n).wf = true
  | 0, _, _, _, _, h, _ => by cases h
  | d + 1, t, fuel, cs, x, h, hx => by
    unfold allInts at h
    split at h
    · rename_i hu
      obtain ⟨n, e1, _, e3⟩ := DataW.trod_int hu hx
      exact ⟨[n], by rw [e1]; rfl, by rw [of_decide_eq_true h]; rfl, fun m hm => by simp at hm; subst hm; exact e3⟩
    · rename_i fs hu
      simp only [Bool.and_eq_true] at h
      obtain ⟨xs, n, _, _, hl, hxl, hf⟩ := DataW.trod_struct hu hx
      obtain ⟨l, g1, g2, g3⟩ := ints_fields (fun t fuel cs x => trod_ints d t fuel cs x) cs n fs.toList 0 _ (eq_of_beq h.1) hl.symm (Nat.zero_le _) h.2 (fun f hfm => by
        obtain ⟨i, hi, rfl⟩ := List.getElem_of_mem hfm
        have hi' : i < fs.size := by simpa using hi
        have := hf i fs[i] (Array.getElem?_eq_getElem hi')
        rw [List.getElem?_eq_getElem (by omega)] at this
        exact ⟨_, by simpa using this⟩)
      rw [List.drop_zero] at g1
      exact ⟨l, g1, by omega, g3⟩
    · cases h
theorem struct_in {d base2 : Nat} {t : TypeId} {fs : Array Field} {v : Value} {x : DataW H} {p : List MemPlace} (ht : P.underlying t = some (.struct fs)) (ha : allInts P d t = true)
    (hv : Value.okWide P w .any base2 t v) (h : DataW.Trod enc P w base sp held t v x p) : ∃ l : List Int, v = .agg (l.map (Value.int .i64)).toArray ∧ l.length = P.cellsOf t ∧ ∀ n ∈ l, (Lit.int .i64 n).wf = true := by
  obtain ⟨cs, rfl, _⟩ := WideShapes.okWide_struct ht hv
  obtain ⟨fuel, hf⟩ := h
  obtain ⟨l, e1, e2, e3⟩ := trod_ints d t fuel _ _ ha hf
  refine ⟨l, ?_, e2, e3⟩
  have e1 : cs.toList = l.map (Value.int .i64) := e1
  rw [← e1]
end
theorem list1 (l : List Int) (h : l.length = 1) : ∃ x0, l = [x0] := by
  match l, h with
  | [x0], _ => exact ⟨_, rfl⟩
theorem list2 (l : List Int) (h : l.length = 2) : ∃ x0 x1, l = [x0, x1] := by
  match l, h with
  | [x0, x1], _ => exact ⟨_, _, rfl⟩
theorem list3 (l : List Int) (h : l.length = 3) : ∃ x0 x1 x2, l = [x0, x1, x2] := by
  match l, h with
  | [x0, x1, x2], _ => exact ⟨_, _, _, rfl⟩
theorem list4 (l : List Int) (h : l.length = 4) : ∃ x0 x1 x2 x3, l = [x0, x1, x2, x3] := by
  match l, h with
  | [x0, x1, x2, x3], _ => exact ⟨_, _, _, _, rfl⟩
theorem list5 (l : List Int) (h : l.length = 5) : ∃ x0 x1 x2 x3 x4, l = [x0, x1, x2, x3, x4] := by
  match l, h with
  | [x0, x1, x2, x3, x4], _ => exact ⟨_, _, _, _, _, rfl⟩
theorem list6 (l : List Int) (h : l.length = 6) : ∃ x0 x1 x2 x3 x4 x5, l = [x0, x1, x2, x3, x4, x5] := by
  match l, h with
  | [x0, x1, x2, x3, x4, x5], _ => exact ⟨_, _, _, _, _, _, rfl⟩
theorem list7 (l : List Int) (h : l.length = 7) : ∃ x0 x1 x2 x3 x4 x5 x6, l = [x0, x1, x2, x3, x4, x5, x6] := by
  match l, h with
  | [x0, x1, x2, x3, x4, x5, x6], _ => exact ⟨_, _, _, _, _, _, _, rfl⟩
theorem list8 (l : List Int) (h : l.length = 8) : ∃ x0 x1 x2 x3 x4 x5 x6 x7, l = [x0, x1, x2, x3, x4, x5, x6, x7] := by
  match l, h with
  | [x0, x1, x2, x3, x4, x5, x6, x7], _ => exact ⟨_, _, _, _, _, _, _, _, rfl⟩
theorem list9 (l : List Int) (h : l.length = 9) : ∃ x0 x1 x2 x3 x4 x5 x6 x7 x8, l = [x0, x1, x2, x3, x4, x5, x6, x7, x8] := by
  match l, h with
  | [x0, x1, x2, x3, x4, x5, x6, x7, x8], _ => exact ⟨_, _, _, _, _, _, _, _, _, rfl⟩
theorem list10 (l : List Int) (h : l.length = 10) : ∃ x0 x1 x2 x3 x4 x5 x6 x7 x8 x9, l = [x0, x1, x2, x3, x4, x5, x6, x7, x8, x9] := by
  match l, h with
  | [x0, x1, x2, x3, x4, x5, x6, x7, x8, x9], _ => exact ⟨_, _, _, _, _, _, _, _, _, _, rfl⟩
end Go.Proofs.Ytdijakobocnceaa
