/-
  What is known of a function otherwise: a call that makes and changes nothing of the run's own.
-/
import Derived.Test.YtdijakobocnceaaAETop
namespace Go.Proofs.Ytdijakobocnceaa.AE
set_option maxRecDepth 100000
open Go.RowKit
theorem cell_heap {W W' : World} {b o : Nat} (h : W'.heap[b]? = W.heap[b]?) : W'.cell? ⟨b, o, none⟩ = W.cell? ⟨b, o, none⟩ := by
  simp only [World.cell?, h]
theorem Inv.below {G : Gh} {H : AH} {W W' : World} (h : Inv G H W) (hb : Below W.heap.size W W') : Ext G W G W' ∧ Inv G H W' := by
  have E : Ext G W G W' :=
    { os := hb.os, tape := hb.tape, output := hb.output, size := hb.size, δ := fun _ _ h => h, tip := fun _ i h => ⟨i, h, .inl rfl⟩, prot := fun _ _ h => h,
      cell := fun b o p => cell_heap (hb.block b (h.plt b o p)), own := fun _ h => h, new := fun _ _ h => h, block := fun b hlt _ => hb.block b hlt, pnew := fun _ _ _ _ p => p }
  refine ⟨E, Inv.mk (fun id t cs hbk => ?_) h.inj h.δown h.δpr h.δlen h.tip h.tlen (fun t i hi => (h.row t i hi).below hb) h.trow h.tδ h.tt (fun b o p => Nat.lt_of_lt_of_le (h.plt b o p) hb.size) (fun b p => Nat.lt_of_lt_of_le (h.olt b p) hb.size)⟩
  obtain ⟨b, vs, e1, e2, e3, e4⟩ := h.blk id t cs hbk
  exact ⟨b, vs, e1, e2.of (hb.block b (h.δlt e1)), e3.ext E, e4⟩
/-- A function of plain values with a plain answer. -/
theorem prim_of {P : Program} {ro : Nat → Option (List Value)} {g : FuncId} {args : List AV} {H H' : AH} {c : Value} {us : List Value} (hv : vals? args = some us) (hS : Same H H') (hc : H'.cd → H.cd)
    (hf : ∃ fn, P.funcs[g]? = some fn ∧ fn.body.isSome = true)
    (h : H'.cd → ∀ G W, Ro ro G W → Calls P g us.toArray W fun e W' => e = .returned c ∧ Below W.heap.size W W') : HSound1 P ro g args H (.v c) H' := by
  refine ⟨hS.keep hc, fun hcd G W cargs hI hR hA => ⟨hf, ?_⟩⟩
  have hu : cargs = us.toArray := by
    have := vals_rel hA hv
    rw [← this]
  subst hu
  refine (h hcd G W hR).mono ?_
  rintro e W' ⟨rfl, hb⟩
  obtain ⟨e1, e2⟩ := hI.below hb
  exact ⟨c, G, rfl, e1, e2.same hS.b hS.t, .v _⟩
end Go.Proofs.Ytdijakobocnceaa.AE
