/-
  A call that answers a slice of the block that it made last: the block is frozen, and the answer is a list that never changes.
-/
import Derived.Test.YtbfeoggdalepmaaAEIceS
namespace Go.Proofs.Ytbfeoggdalepmaa.AE
set_option maxRecDepth 100000
open Go.RowKit
theorem Fs.iceT {P : Program} {ro : Nat → Option (List Value)} {g : FuncId} {args : List AV} {H : AH} {Φ : AV → AH → Prop} (sz : Nat)
    (h : Fs P ro g args H fun r h => ∃ (B : List (TypeId × List AV)) (t : TypeId) (vs : List Value) (B' : List (TypeId × List AV)) (n cap : Nat) (xs : List AV), h.blks = B ++ [(t, vs.map AV.v)] ∧ OkT t ∧ H.blks.length ≤ B.length ∧ frB B.length (vs.map .v) B = some B' ∧ n ≤ cap ∧ cap ≤ maxLen ∧ xs.length = n ∧ (∀ x ∈ xs, x.cells.length = sz) ∧ xs.flatMap AV.cells = (vs.take (n * sz)).map AV.v ∧
      ((r = .sl B.length 0 n cap ∧ Φ (.lst sz xs .no) { h with blks := B' }) ∨ ∃ w, r = .tuple [.sl B.length 0 n cap, .v w] ∧ Φ (.tuple [.lst sz xs .no, .v w]) { h with blks := B' })) : Fs P ro g args H Φ := by
  intro G W cargs hI hR hA
  refine ⟨(h G W cargs hI hR hA).1, (h G W cargs hI hR hA).2.mono ?_⟩
  rintro e W1 ⟨c, G1, r, H1, rfl, ⟨B, t, vs, B', n, cap, xs, q1, q2, q3, q6, q7, q8, q9, q10, q11, q12⟩, e1, i1, r1⟩
  obtain ⟨b0, f1, f2, f3, f4, f5⟩ := i1.ice q1 q2 q6
  have E : Ext G W (iceG B.length b0 G1) W1 :=
    { os := e1.os, tape := e1.tape, output := e1.output, size := e1.size, δ := fun id b hd => ice_δ' (e1.δ id b hd) (by have := hI.δlen id b hd; omega), tip := e1.tip, prot := fun b o p => .inl (e1.prot b o p), cell := e1.cell, own := e1.own, new := e1.new, block := e1.block
      pnew := fun b o hb hn p => by
        rcases p with p | p
        · exact e1.pnew b o hb hn p
        · subst p; exact absurd (e1.new _ hb (i1.δown _ _ f1)) hn }
  have key : ∀ c0, RV G1 W1 (.sl B.length 0 n cap) c0 → RV (iceG B.length b0 G1) W1 (.lst sz xs .no) c0 := by
    intro c0 hr0
    cases hr0 with
    | sl hd =>
      rw [f1] at hd
      cases hd
      refine .lst (cs := vs.take (n * sz)) q9.symm (by rw [q11]; exact PVs.map_v _) q10 ⟨fun u hu => f3 u (List.mem_of_mem_take hu), fun _ => ⟨b0, 0, rfl, fun j u hu => ⟨.inr rfl, ?_⟩⟩⟩ q7 q8 trivial
      rw [Nat.zero_add]
      refine f4 j u ?_
      rw [List.getElem?_take] at hu
      split at hu
      · exact hu
      · cases hu
  rcases q12 with ⟨rfl, hΦ⟩ | ⟨w, rfl, hΦ⟩
  · exact ⟨c, _, _, _, rfl, hΦ, E, f5, key c r1⟩
  · refine ⟨c, _, _, _, rfl, hΦ, E, f5, ?_⟩
    cases r1 with
    | tuple hr =>
      rename_i cs
      refine .tuple ?_
      generalize cs.toList = l at hr
      cases hr with
      | cons h1 h2 =>
        cases h2 with
        | cons h2 h3 =>
          cases h3
          cases h2
          exact .cons (key _ h1) (.cons (.v _) .nil)
theorem frLs_gi (k : Nat) (cs : List AV) : ∀ l : List Int, frLs k cs (l.map gi) = some (l.map gi)
  | [] => rfl
  | a :: l => by
    rw [List.map_cons]
    simp only [frLs, frLs_gi k cs l]
    rfl
end Go.Proofs.Ytbfeoggdalepmaa.AE
