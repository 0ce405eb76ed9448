/-
  A row that a piece of code made last is frozen: the slice of it is a list that never changes.
-/
import Derived.Test.YtbfeoggdalepmaaAEIce
import Derived.Test.YtbfeoggdalepmaaAEFrzN
namespace Go.Proofs.Ytbfeoggdalepmaa.AE
set_option maxRecDepth 100000
open Go.RowKit
theorem Tr.iceS {P : Program} {ro : Nat → Option (List Value)} {c : Code} {act : List AV} {H : AH} {Q : Exit → List AV → AH → Prop} (s sz : Nat)
    (h : Tr P ro c act H fun e a h => ∃ (B : List (TypeId × List AV)) (t : TypeId) (vs : List Value) (a' : List AV) (B' : List (TypeId × List AV)) (n cap : Nat) (xs : List AV), h.blks = B ++ [(t, vs.map AV.v)] ∧ OkT t ∧ H.blks.length ≤ B.length ∧ a[s]? = some (.sl B.length 0 n cap) ∧ frLs B.length (vs.map .v) (a.set s .dead) = some a' ∧ frB B.length (vs.map .v) B = some B' ∧ n ≤ cap ∧ cap ≤ maxLen ∧ xs.length = n ∧ (∀ x ∈ xs, x.cells.length = sz) ∧ xs.flatMap AV.cells = (vs.take (n * sz)).map AV.v ∧ Q e (a'.set s (.lst sz xs .no)) { h with blks := B' }) : Tr P ro c act H Q := by
  intro G W a hI hR hA
  refine wp_mono (h G W a hI hR hA) ?_
  rintro e a1 W1 ⟨act1, H1, G1, ⟨B, t, vs, a', B', n, cap, xs, q1, q2, q3, q4, q5, q6, q7, q8, q9, q10, q11, q12⟩, e1, i1, r1, d1⟩
  obtain ⟨b0, f1, f2, f3, f4, f5⟩ := i1.ice q1 q2 q6
  have r1d : RVs G1 W1 (act1.set s .dead) a1.tmps.toList := RVs.setL s r1 fun c _ => .dead c
  have r2 := frLs_rel f1 f3 f4 r1d a' q5
  obtain ⟨c0, hc0, hr0⟩ := r1.get s _ q4
  refine ⟨_, _, iceG B.length b0 G1, q12, ?_, f5, RVs.setL s r2 fun c hc => ?_, d1⟩
  · exact { os := e1.os, tape := e1.tape, output := e1.output, size := e1.size, δ := fun id b hd => ice_δ' (e1.δ id b hd) (by have := hI.δlen id b hd; omega), tip := e1.tip, prot := fun b o p => .inl (e1.prot b o p), cell := e1.cell, own := e1.own, new := e1.new, block := e1.block
            pnew := fun b o hb hn p => by
              rcases p with p | p
              · exact e1.pnew b o hb hn p
              · subst p; exact absurd (e1.new _ hb (i1.δown _ _ f1)) hn }
  · rw [hc] at hc0
    cases hc0
    cases hr0 with
    | sl hd =>
      rw [f1] at hd
      cases hd
      refine .lst (cs := vs.take (n * sz)) q9.symm (by rw [q11]; exact PVs.map_v _) q10 ⟨fun u hu => f3 u (List.mem_of_mem_take hu), fun _ => ⟨b0, 0, rfl, fun j u hu => ⟨.inr rfl, ?_⟩⟩⟩ q7 q8 trivial
      rw [Nat.zero_add]
      refine f4 j u ?_
      rw [List.getElem?_take] at hu
      split at hu
      · exact hu
      · cases hu
end Go.Proofs.Ytbfeoggdalepmaa.AE
