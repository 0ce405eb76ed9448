/-
  What a row's list of variables says of each of them: a table's numbers, and its block.
-/
import Derived.Test.YtlonpmcgejdkkaaDoorAETr
import Derived.MakeChecks
import Derived.Lib.LaidTab
namespace Go.Proofs.YtlonpmcgejdkkaaDoor.AE
set_option maxRecDepth 100000
open Go.RowKit
theorem laid_mem {P : Program} {W : World} : ∀ {l : List (String × DataW Unit)} {ps : List MemPlace}, DataW.LaidVars P W l ps → ∀ {n : String} {d : DataW Unit}, (n, d) ∈ l →
    ∃ g t cs fuel p, P.globalNamed n = some g ∧ (P.globals[g]?).map (·.type) = some t ∧ W.var? P n = some cs ∧ DataW.trod (fun _ => ()) P W 0 (fun _ => true) false fuel t cs.toList = some (d, p) ∧ ∀ x ∈ MemPlace.row ⟨g, 0, none⟩ cs.size, x ∈ ps
  | [], _, _, _, _, h => by cases h
  | (n0, d0) :: l, ps, hv, n, d, h => by
    obtain ⟨g, t, cs, fuel, p, q, h1, h2, h3, h4, h5, h6⟩ := hv
    rcases List.mem_cons.1 h with h | h
    · cases h
      exact ⟨g, t, cs, fuel, p, h1, h2, h3, h4, fun x hx => by rw [h6]; simp [hx]⟩
    · obtain ⟨g', t', cs', fuel', p', k1, k2, k3, k4, k5⟩ := laid_mem h5 h
      exact ⟨g', t', cs', fuel', p', k1, k2, k3, k4, fun x hx => by rw [h6]; simp [k5 x hx]⟩
/-- The block of a variable on the list. -/
theorem laid_block {P : Program} {W : World} {l : List (String × DataW Unit)} (hL : laidMet P l W) {n : String} {d : DataW Unit} (h : (n, d) ∈ l) {g : Nat} (hg : P.globalNamed n = some g) :
    ∃ t cs fuel p, (P.globals[g]?).map (·.type) = some t ∧ W.var? P n = some cs ∧ DataW.trod (fun _ => ()) P W 0 (fun _ => true) false fuel t cs.toList = some (d, p) ∧ (0 < cs.size → ∃ e, W.heap[g]? = some (.cells cs e (0, 0))) := by
  obtain ⟨ps, hv, _, hc⟩ := hL
  obtain ⟨g', t, cs, fuel, p, h1, h2, h3, h4, h5⟩ := laid_mem hv h
  rw [hg] at h1
  cases h1
  refine ⟨t, cs, fuel, p, h2, h3, h4, fun h0 => ?_⟩
  have hm : MemPlace.cell g 0 ∈ ps := h5 _ (by unfold MemPlace.row; simp; exact h0)
  obtain ⟨⟨c, e, he⟩, _⟩ := hc g 0 hm
  have hv3 := h3
  unfold World.var? at hv3
  rw [hg] at hv3
  simp only [Option.bind_some, he, Option.some.injEq] at hv3
  rw [hv3] at he
  exact ⟨e, he⟩
/-- A table of numbers, wherever it stands on the list. -/
theorem laid_table {P : Program} {W : World} {l : List (String × DataW Unit)} (hL : laidMet P l W) {name : String} {k : IntKind} {zs : List Int} (h : (name, Lib.tabData k zs) ∈ l) {g : Nat} {t e : TypeId} {n : Nat} (hg : P.globalNamed name = some g)
    (hty : (P.globals[g]?).map (·.type) = some t) (ht : P.underlying t = some (.array n e)) (he : P.underlying e = some (.int k)) (hce : P.cellsOf e = 1) (hct : P.cellsOf t = n) (h0 : 0 < zs.length) :
    (∀ (j : Nat) (u : Value), (zs.map fun z => Value.int k z)[j]? = some u → (G0 W).prot g j ∧ W.cell? ⟨g, j, none⟩ = some u) ∧ ¬ (G0 W).own g ∧ ∃ t, W.heap[g]? = some (.cells (zs.map fun z => Value.int k z).toArray t (0, 0)) := by
  obtain ⟨t', cs, fuel, p, h2, h3, h4, h5⟩ := laid_block hL h hg
  rw [hty] at h2
  cases h2
  have hcs := Lib.cells_of_tab ht he hce hct h4
  have hsz : cs.size = zs.length := by
    have := congrArg List.length hcs
    simpa using this
  obtain ⟨e', hb⟩ := h5 (by omega)
  have ha : cs = (zs.map fun z => Value.int k z).toArray := by rw [← hcs]
  rw [ha] at hb
  refine ⟨fun j u hu => ⟨?_, ?_⟩, fun o => o, e', hb⟩
  · show g < W.heap.size
    by_cases hlt : g < W.heap.size
    · exact hlt
    · rw [Array.getElem?_eq_none (by omega)] at hb; cases hb
  · simp only [World.cell?, hb]
    simpa using hu
theorem trod_iface {P : Program} {W : World} {t m : _} (hu : P.underlying t = some (.interface m)) {fuel : Nat} {cs : List Value} {nm : String} {d : DataW Unit} {p : List MemPlace} (h : DataW.trod (fun _ => ()) P W 0 (fun _ => true) false fuel t cs = some (.iface nm d, p)) : ∃ u v, cs = [.iface u v] := by
  cases fuel with
  | zero => simp [DataW.trod] at h
  | succ fuel =>
    rcases cs with _ | ⟨c, _ | ⟨c2, r⟩⟩
    · simp [DataW.trod, hu] at h
    · cases c <;> first
        | exact ⟨_, _, rfl⟩
        | (simp [DataW.trod, hu] at h)
    · cases c <;> simp [DataW.trod, hu] at h
/-- A variable that holds an error. -/
theorem laid_error {P : Program} {W : World} {l : List (String × DataW Unit)} (hL : laidMet P l W) {name nm : String} {d : DataW Unit} (h : (name, .iface nm d) ∈ l) {g : Nat} {t m : _} (hg : P.globalNamed name = some g)
    (hty : (P.globals[g]?).map (·.type) = some t) (ht : P.underlying t = some (.interface m)) :
    ∃ u v, (∀ (j : Nat) (x : Value), [Value.iface u v][j]? = some x → (G0 W).prot g j ∧ W.cell? ⟨g, j, none⟩ = some x) ∧ ¬ (G0 W).own g ∧ ∃ t, W.heap[g]? = some (.cells [Value.iface u v].toArray t (0, 0)) := by
  obtain ⟨t', cs, fuel, p, h2, h3, h4, h5⟩ := laid_block hL h hg
  rw [hty] at h2
  cases h2
  obtain ⟨u, v, hcs⟩ := trod_iface ht h4
  have ha : cs = [Value.iface u v].toArray := by rw [← hcs]
  have hsz : 0 < cs.size := by rw [ha]; exact Nat.zero_lt_one
  obtain ⟨e', hb⟩ := h5 hsz
  rw [ha] at hb
  refine ⟨u, v, fun j x hx => ⟨?_, ?_⟩, fun o => o, e', hb⟩
  · show g < W.heap.size
    by_cases hlt : g < W.heap.size
    · exact hlt
    · rw [Array.getElem?_eq_none (by omega)] at hb; cases hb
  · simp only [World.cell?, hb]
    simpa using hx
end Go.Proofs.YtlonpmcgejdkkaaDoor.AE
