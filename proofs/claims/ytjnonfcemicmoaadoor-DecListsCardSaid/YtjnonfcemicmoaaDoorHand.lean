/-
  A row's frame round a walk that asks of the world its shape and the listed variables.
-/
import Derived.Test.YtjnonfcemicmoaaDoorAEList
import Derived.HandedShaped
import Derived.Handed
import Derived.Shelf.Vars
namespace Go
variable {H : Type} {enc : TypeId × Value → H}
theorem Proofs.YtjnonfcemicmoaaDoor.hand_shaped {a : Assume} {C : Checked} {os : Os} {f : FuncId} {fn : Func} {s : ChangeSpec} {conds : List PathCond} {apart fresh handsOn again : Bool} {X : World → Array Value → Prop}
    (hX : ∀ (w w' : World) (args : Array Value), w.heap = w'.heap → X w args → X w' args)
    (own : ownKnob C.prog.godebug = none) (started : os.Started) (noInit : C.prog.inits.idxOf? f = none) (hfn : C.prog.funcs[f]? = some fn)
    (witness : ∃ (w : World) (tape : Tape) (i : Input), w.os = os ∧ (w.forCall tape i).Shaped C.prog ∧ i.vars = [] ∧ Input.okWide C.prog (w.forCall tape i) .any w.heap.size f i ∧
      ((s.pre enc C.prog fn conds apart (w.forCall tape i).memory i.args ∧ X (w.forCall tape i).memory i.args) ∧ sizedMet enc C.prog fn (OpenSpec.ofChange s) apart (w.forCall tape i).memory i.args) ∧ a.holds C.prog (lone (Frame.enter C.prog f i.args .normal) [] (w.forCall tape i)))
    (contract : ∀ (W : World) (base : Nat) (args : Array Value) (ds gs : List (DataW H)) (before : List MemPlace),
      (∀ (j : Nat) t v, fn.params[j]? = some t → args[j]? = some v → Value.okWide C.prog W .any base t v) →
      DataW.Whole enc C.prog fn.params.toList s.vars apart W args.toList ds gs before →
      W.ShapedOpen C.prog → X W args →
      Calls C.prog f args W fun e W' => ∃ v, e = .returned v ∧ s.post enc C.prog fn apart fresh handsOn again W args v W') :
    ReturnsInHanded a C os f .any (fun w args => (s.pre enc C.prog fn conds apart w args ∧ X w args) ∧ sizedMet enc C.prog fn (OpenSpec.ofChange s) apart w args) (s.post enc C.prog fn apart fresh handsOn again) := by
  refine returnsInHanded_of_calls own started noInit witness fun w tape i _ shaped _ fits pre _ => ?_
  obtain ⟨_, _, _, g, hg, _, _, _, _, hval⟩ := fits
  obtain rfl : g = fn := Option.some.inj (hg.symm.trans hfn)
  obtain ⟨⟨⟨ds, gs, before, hw, _⟩, hx⟩, _⟩ := pre
  refine (contract (w.forCall tape i) w.heap.size i.args ds gs before hval (hw.of_heap (w' := w.forCall tape i) (by rfl)) shaped (hX _ _ _ (by rfl) hx)).mono ?_
  rintro e W' ⟨v, rfl, hp⟩
  exact ChangeSpec.post_blind hp
end Go
namespace Go.Proofs.YtjnonfcemicmoaaDoor.AE
open Go.RowKit
/-- A variable that holds one number, whatever it is. -/
theorem shaped_int {P : Program} {w : World} {g : Nat} {t : TypeId} {zero : Array Value} {k : IntKind} (h : w.ShapedOpen P) (hg : g < P.globals.size)
    (h0 : ((begin P (fun _ _ => 0) default).world.heap[g]?).bind Obj.row? = some (zero, t)) (hz : zero.size = 1) (hb : P.buildable t = true) (hc : P.cellTypes P.depth t = some [t]) (hu : P.underlying t = some (.int k)) :
    ∃ m, (∀ (j : Nat) (u : Value), [Value.int k m][j]? = some u → (G0 w).prot g j ∧ w.cell? ⟨g, j, none⟩ = some u) ∧ ¬ (G0 w).own g ∧ ∃ t, w.heap[g]? = some (.cells [Value.int k m].toArray t (0, 0)) := by
  obtain ⟨m, hm⟩ := cell_of_shapedOpen_int h hg h0 hz hb hc hu
  obtain ⟨cs, hh, hs, _⟩ := h.1 g zero t hg h0
  have hcs : cs = #[.int k m] := by
    simp only [World.cell?, hh] at hm
    apply Array.ext
    · rw [hs, hz]; rfl
    · intro i h1 h2
      have hi : i = 0 := by simp at h2; omega
      subst hi
      rw [Array.getElem?_eq_getElem h1] at hm
      simpa using hm
  subst hcs
  refine ⟨m, fun j u hu => ?_, fun o => o, t, hh⟩
  have hj : j = 0 := by have := (List.getElem?_eq_some_iff.1 hu).1; simp at this; omega
  subst hj
  cases hu
  exact ⟨cell_lt (p := ⟨g, 0, none⟩) hm, hm⟩
end Go.Proofs.YtjnonfcemicmoaaDoor.AE
