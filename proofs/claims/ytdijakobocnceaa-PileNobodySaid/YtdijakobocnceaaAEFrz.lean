/-
  A function of data alone that hands back a slice of a block that it made: the block is let go, and its cells never change any more.
-/
import Derived.Test.YtdijakobocnceaaAEData
namespace Go.Proofs.Ytdijakobocnceaa.AE
set_option maxRecDepth 100000
open Go.RowKit
theorem Inv.dataX {G G1' : Gh} {H H1 : AH} {W W' : World} (h : Inv G H W) (e : Ext (bareG G) W G1' W') (h1 : Inv G1' H1 W') (X : Nat → Prop) (hX : ∀ b, X b → W.heap.size ≤ b ∧ b < W'.heap.size) :
    ∃ G', Ext G W G' W' ∧ Inv G' H W' ∧ (∀ b o, G1'.prot b o → G'.prot b o) ∧ ∀ b o, X b → G'.prot b o := by
  have hblk : ∀ b, b < W.heap.size → W'.heap[b]? = W.heap[b]? := fun b hb => e.block b hb (fun h => h)
  have hold : ∀ b o, b < W.heap.size → (G.prot b o ∨ G1'.prot b o ∨ X b) → G.prot b o := fun b o hb p => by
    rcases p with p | p | p
    · exact p
    · exact e.pnew b o hb (fun h => h) p
    · exact absurd (hX b p).1 (by omega)
  let G' : Gh := { G with prot := fun b o => G.prot b o ∨ G1'.prot b o ∨ X b }
  have E : Ext G W G' W' :=
    { os := e.os, tape := e.tape, output := e.output, size := e.size, δ := fun _ _ h => h, tip := fun _ i h => ⟨i, h, .inl rfl⟩, prot := fun _ _ p => .inl p,
      cell := fun b o p => cell_heap (hblk b (h.plt b o p)), own := fun _ h => h, new := fun _ _ h => h, block := fun b hb _ => hblk b hb, pnew := fun b o hb _ p => hold b o hb p }
  refine ⟨G', E, Inv.mk (fun id t cs hbk => ?_) h.inj h.δown (fun i b o hi p => h.δpr i b o hi (hold b o (h.δlt hi) p)) h.δlen h.tip h.tlen (fun t i hi => ?_) (fun t i b off n cap hi hv => ?_) h.tδ h.tt (fun b o p => ?_) (fun b p => Nat.lt_of_lt_of_le (h.olt b p) e.size), fun b o p => .inr (.inl p), fun b o p => .inr (.inr p)⟩
  · obtain ⟨b, vs, e1, e2, e3, e4⟩ := h.blk id t cs hbk
    exact ⟨b, vs, e1, e2.of (hblk b (h.δlt e1)), e3.ext E, e4⟩
  · exact (h.row t i hi).below ⟨e.os, e.tape, e.output, e.size, fun b hb => hblk b hb⟩
  · obtain ⟨x1, x2, x3, x4⟩ := h.trow t i b off n cap hi hv
    exact ⟨x1, x2, fun o ho => .inl (x3 o ho), fun o ho p => x4 o ho (hold b o (h.olt b x2) p)⟩
  · rcases p with p | p | p
    · exact Nat.lt_of_lt_of_le (h.plt b o p) e.size
    · exact h1.plt b o p
    · exact (hX b p).2
/-- A slice of a block that was made is a list. -/
theorem Inv.freeze {G G1' : Gh} {H H1 : AH} {W W' : World} (h : Inv G H W) (e : Ext (bareG G) W G1' W') (h1 : Inv G1' H1 W') {id n cap : Nat} {t : TypeId} {us : List Value} {xs : List AV} {sz : Nat} {c : Value}
    (hb : H1.at id = some (t, us.map AV.v)) (hr : RV G1' W' (.sl id 0 n cap) c) (hx : xs.flatMap AV.cells = (us.map AV.v).take (n * sz)) (hn : xs.length = n) (hs : ∀ x ∈ xs, x.cells.length = sz) (hc : n ≤ cap) (hm : cap ≤ maxLen) :
    ∃ G', Ext G W G' W' ∧ Inv G' H W' ∧ RV G' W' (.lst sz xs .no) c := by
  obtain ⟨b, vs, e1, e2, e3, e4⟩ := h1.blk id t _ (at_some hb).1
  have hlow : W.heap.size ≤ b := by
    rcases Nat.lt_or_ge b W.heap.size with hlt | hge
    · exact ((e.new b hlt (h1.δown id b e1))).elim
    · exact hge
  obtain ⟨G', x1, x2, _, x4⟩ := h.dataX e h1 (fun k => k = b) (fun k hk => by subst hk; exact ⟨hlow, h1.δlt e1⟩)
  refine ⟨G', x1, x2, ?_⟩
  have hvs : vs.toList = us := by
    have := vals_rel e3 (show vals? (us.map AV.v) = some us by
      clear hb e3 hx
      induction us with
      | nil => rfl
      | cons u l ih => simp [vals?, AV.val?, ih])
    rw [← this]
  cases hr with
  | sl hd =>
    rw [e1] at hd
    cases hd
    refine .lst (cs := us.take (n * sz)) hn.symm ?_ hs ⟨fun u hu => e4 (at_some hb).2 u (by rw [hvs]; exact List.mem_of_mem_take hu), fun hne => ⟨b, 0, rfl, fun j u hu => ⟨x4 b _ rfl, ?_⟩⟩⟩ hc hm trivial
    · rw [hx, ← List.map_take]; exact PVs.map_v _
    · rw [Nat.zero_add, e2.cell (at_some hb).2]
      have hj : us[j]? = some u := by
        rw [List.getElem?_take] at hu
        split at hu
        · exact hu
        · cases hu
      rw [← hvs] at hj
      simpa using hj
/-- What a call hands back: data, or a slice of a block of plain cells that it made. -/
def frz (r : AV) (H : AH) (y : AV) : Prop := clean r = some y ∨ ∃ (id : Nat) (t : TypeId) (us : List Value) (n cap sz : Nat) (xs : List AV), r = .sl id 0 n cap ∧ H.at id = some (t, us.map AV.v) ∧ xs.flatMap AV.cells = (us.map AV.v).take (n * sz) ∧ xs.length = n ∧ (∀ x ∈ xs, x.cells.length = sz) ∧ n ≤ cap ∧ cap ≤ maxLen ∧ y = .lst sz xs .no
theorem frz_ok {ro : Nat → Option (List Value)} {g : FuncId} {spec : List AV → Option (AV × Bool)} (hf : ∃ fn, Try.prog.funcs[g]? = some fn ∧ fn.body.isSome = true)
    (h : ∀ args r, spec args = some (r, true) → Fs Try.prog ro g args (hp [] []) fun r' H' => frz r' H' r) :
    ∀ args H r H', data? spec args H = some (r, H') → HSound1 Try.prog ro g args H r H' := by
  intro args H r H' hd
  unfold data? at hd
  split at hd
  · rename_i ar has
    split at hd
    · rename_i rb hs
      obtain ⟨r0, b⟩ := rb
      cases hd
      refine ⟨⟨fun x => (cdb_iff.1 x).1, rfl, rfl, rfl, Nat.le_refl _, Nat.le_refl _, fun _ _ _ => rfl, fun _ _ _ => rfl⟩, fun hcd G W cargs hI hR hA => ⟨hf, ?_⟩⟩
      have hb : b = true := (cdb_iff.1 hcd).2
      subst hb
      refine ((h _ _ hs) (bareG G) W cargs (inv_bare hI) (ro_bare hR) (cleans_to (G := G) (G2 := bareG G) (fun _ _ p => p) hA _ has)).2.mono ?_
      rintro e W' ⟨c, G1', r', H1, rfl, hr, e1, e2, e3⟩
      rcases hr with hr | ⟨id, t, us, n, cap, sz, xs, rfl, k2, k3, k4, k5, k6, k7, rfl⟩
      · obtain ⟨G', x1, x2, x3⟩ := hI.data e1 e2
        exact ⟨c, G', rfl, x1, x2.same rfl rfl, clean_to x3 e3 _ hr⟩
      · obtain ⟨G', x1, x2, x3⟩ := hI.freeze e1 e2 k2 e3 k3 k4 k5 k6 k7
        exact ⟨c, G', rfl, x1, x2.same rfl rfl, x3⟩
    · cases hd
  · cases hd
end Go.Proofs.Ytdijakobocnceaa.AE
