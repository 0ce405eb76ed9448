/-
  A function of data alone whose answer is a slice of a block that it made: the block is let go, and its cells never change any more (elements of several cells).
-/
import Derived.Test.YtbfeoggdalepmaaAEAppN
namespace Go.Proofs.Ytbfeoggdalepmaa.AE
set_option maxRecDepth 100000
open Go.RowKit
theorem frzN_ok {ro : Nat → Option (List Value)} {g : FuncId} {val : List AV → AV} {ok : List AV → Bool} (hf : ∃ fn, Try.prog.funcs[g]? = some fn ∧ fn.body.isSome = true)
    (h : ∀ args, ok args = true → ∃ ar, cleans args = some ar ∧ Fs Try.prog ro g ar (hp [] []) fun r H' => ∃ (id n cap sz : Nat) (t : TypeId) (C : List Value) (xs : List AV), r = .sl id 0 n cap ∧ H'.blks[id]? = some (t, C.map AV.v) ∧ OkT t ∧ n ≤ cap ∧ cap ≤ maxLen ∧ xs.length = n ∧ (∀ x ∈ xs, x.cells.length = sz) ∧ xs.flatMap AV.cells = (C.take (n * sz)).map AV.v ∧ val args = .lst sz xs .no) :
    ∀ args H r H', tot? val ok args H = some (r, H') → HSound1 Try.prog ro g args H r H' := by
  intro args H r H' hd
  unfold tot? at hd
  cases hd
  refine ⟨⟨fun x => (cdb_iff.1 x).1, rfl, rfl, rfl, Nat.le_refl _, Nat.le_refl _, fun _ _ _ => rfl, fun _ _ _ => rfl⟩, fun hcd G W cargs hI hR hA => ⟨hf, ?_⟩⟩
  obtain ⟨ar, has, hfs⟩ := h args (cdb_iff.1 hcd).2
  refine (hfs (bareG G) W cargs (inv_bare hI) (ro_bare hR) (cleans_to (G := G) (G2 := bareG G) (fun _ _ p => p) hA _ has)).2.mono ?_
  rintro e W' ⟨c, G1', r', H1, rfl, ⟨id, n, cap, sz, t, C, xs, rfl, hb, ht, h1, h2, h3, h4, h5, h6⟩, e1, e2, e3⟩
  have hX : ∀ k, (∃ id, G1'.δ id = some k) → W.heap.size ≤ k ∧ k < W'.heap.size := by
    rintro k ⟨id, hk⟩
    refine ⟨?_, e2.δlt hk⟩
    rcases Nat.lt_or_ge k W.heap.size with hlt | hge
    · exact (e1.new k hlt (e2.δown id k hk)).elim
    · exact hge
  obtain ⟨G', x1, x2, x3, x4⟩ := hI.dataX e1 e2 (fun k => ∃ id, G1'.δ id = some k) hX
  refine ⟨c, G', rfl, x1, x2.same rfl rfl, ?_⟩
  rw [h6]
  cases e3 with
  | sl hd =>
    obtain ⟨b', vs, f1, f2, f3, f4⟩ := e2.blk id t _ hb
    rw [hd] at f1
    cases f1
    have hvs : vs.toList = C := vals_rel f3 (vals_mapV C)
    have hone := f4 ht
    rw [hvs] at hone
    refine .lst (cs := C.take (n * sz)) h3.symm (by rw [h5]; exact PVs.map_v _) h4 ⟨fun u hu => hone u (List.mem_of_mem_take hu), fun _ => ⟨_, 0, rfl, fun j u hu => ⟨x4 _ _ ⟨id, hd⟩, ?_⟩⟩⟩ h1 h2 trivial
    rw [Nat.zero_add]
    refine f2.cellP (by rcases ht with ⟨ht, _⟩; cases hq : Nat.beq t 999998 with
      | true => exact absurd (Nat.eq_of_beq_eq_true hq) ht
      | false => rfl) j u ?_
    have hj : C[j]? = some u := by
      rw [List.getElem?_take] at hu
      split at hu
      · exact hu
      · cases hu
    rw [← hvs] at hj
    simpa using hj
end Go.Proofs.Ytbfeoggdalepmaa.AE
