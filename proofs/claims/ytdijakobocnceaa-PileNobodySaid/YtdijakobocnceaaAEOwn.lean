/-
  What is known otherwise of a function that writes one block of the run's own.
-/
import Derived.Test.YtdijakobocnceaaAETr
namespace Go.Proofs.Ytdijakobocnceaa.AE
set_option maxRecDepth 100000
open Go.RowKit
theorem Inv.wrote {G : Gh} {H : AH} {W W' : World} (h : Inv G H W) {id b : Nat} {t : TypeId} {cs : List AV} {us : List Value} (hb : H.blks[id]? = some (t, cs)) (htm : OkT t) (hd : G.δ id = some b) (hg : W.grownBy W' (some b))
    (hn : W'.heap[b]? = some (.cells us.toArray t (0, 0))) (hone : us.all (·.oneCell') = true) : Ext G W G W' ∧ Inv G { H with blks := H.blks.set id (t, us.map .v) } W' := by
  have hcell : ∀ k o, k < W.heap.size → k ≠ b → W'.cell? ⟨k, o, none⟩ = W.cell? ⟨k, o, none⟩ := fun k o hk hne => cell_heap (hg.block k hk (by simp [hne]))
  have hpb : ∀ k o, G.prot k o → k ≠ b := fun k o p e => by subst e; exact h.δpr id _ o hd p
  have E : Ext G W G W' :=
    { os := hg.os, tape := hg.tape, output := hg.output, size := hg.size, δ := fun _ _ h => h, tip := fun _ i h => ⟨i, h, .inl rfl⟩, prot := fun _ _ h => h,
      cell := fun k o p => hcell k o (h.plt k o p) (hpb k o p), own := fun _ h => h, new := fun _ _ h => h, block := fun k hlt hno => hg.block k hlt (by
        intro e
        have e : k = b := by simpa using e
        subst e
        exact hno (h.δown id _ hd)), pnew := fun _ _ _ _ p => p }
  refine ⟨E, Inv.mk (fun id' t' cs' hbk => ?_) h.inj h.δown h.δpr (fun i b' e => by rw [List.length_set]; exact h.δlen i b' e) h.tip h.tlen (fun t' i hi => (h.row t' i hi).kept hg ?_) h.trow h.tδ h.tt (fun k o p => Nat.lt_of_lt_of_le (h.plt k o p) hg.size) (fun k p => Nat.lt_of_lt_of_le (h.olt k p) hg.size)⟩
  · by_cases hid : id' = id
    · subst hid
      have hl : id' < H.blks.length := (List.getElem?_eq_some_iff.1 hb).1
      have hbk : (H.blks.set id' (t, us.map .v))[id']? = some (t', cs') := hbk
      rw [List.getElem?_set_self hl] at hbk
      cases hbk
      exact ⟨b, us.toArray, hd, .mk htm hn, RVs.map_v us, fun _ => by rw [List.all_eq_true] at hone; exact hone⟩
    · have hbk : (H.blks.set id (t, us.map .v))[id']? = some (t', cs') := hbk
      rw [List.getElem?_set_ne (by omega)] at hbk
      obtain ⟨b', vs, e1, e2, e3, e4⟩ := h.blk id' t' cs' hbk
      have hne : b' ≠ b := fun e => by subst e; exact hid (h.inj _ _ _ e1 hd)
      exact ⟨b', vs, e1, e2.of (hg.block b' (h.δlt e1) (by simp [hne])), e3.ext E, e4⟩
  · cases e : i.v.ownBlock with
    | none => exact .inl rfl
    | some k => exact .inr (by
        intro e2
        have e2 : k = b := by simpa using e2
        subst e2
        exact h.tδ t' i _ hi e id hd)
/-- A function of an object of the run's own, of plain cells. -/
def own? (spec : TypeId → List Value → List Value → Option (Value × List Value × Bool)) (args : List AV) (H : AH) : Ans := match args with
  | .ptr id 0 :: rest => match vals? rest with
    | some us => match H.at id with
      | some b => match vals? b.2 with
        | some cs => match decide (H.mb ≤ id ∧ ¬ b.1 = 999999) with
          | true => match spec b.1 cs us with
            | some c => some (.v c.1, { H with blks := H.blks.set id (b.1, c.2.1.map .v), cd := cdb H.cd c.2.2 })
            | none => none
          | false => none
        | none => none
      | none => none
    | none => none
  | _ => none
theorem own_ok {ro : Nat → Option (List Value)} {g : FuncId} {spec : TypeId → List Value → List Value → Option (Value × List Value × Bool)} (hf : ∃ fn, Try.prog.funcs[g]? = some fn ∧ fn.body.isSome = true)
    (h : ∀ t cs us c cs', spec t cs us = some (c, cs', true) → cs'.all (·.oneCell') = true ∧ ∀ (W : World) b, Ro ro (G0 W) W → W.heap[b]? = some (.cells cs.toArray t (0, 0)) →
      Calls Try.prog g (.pointer (some ⟨b, 0, none⟩) :: us).toArray W fun e W' => e = .returned c ∧ W.grownBy W' (some b) ∧ W'.heap[b]? = some (.cells cs'.toArray t (0, 0))) :
    ∀ args H r H', own? spec args H = some (r, H') → HSound1 Try.prog ro g args H r H' := by
  intro args H r H' hp
  unfold own? at hp
  split at hp
  · rename_i id rest
    split at hp
    · rename_i us hu
      split at hp
      · rename_i bk hbk
        split at hp
        · rename_i cs hcs
          split at hp
          · rename_i hmb
            have hmb2 := of_decide_eq_true hmb
            have hmb := hmb2.1
            split at hp
            · rename_i cc hs
              obtain ⟨c, cs', q⟩ := cc
              cases hp
              refine ⟨⟨fun x => (cdb_iff.1 x).1, rfl, rfl, rfl, by simp, Nat.le_refl _, fun i hi _ => List.getElem?_set_ne (by omega), fun _ _ _ => rfl⟩, fun hcd G W cargs hI hR hA => ⟨hf, ?_⟩⟩
              have hq : q = true := (cdb_iff.1 hcd).2
              subst hq
              obtain ⟨hone, hcall⟩ := h _ _ _ _ _ hs
              obtain ⟨b, vs, e1, e2, e3, e4⟩ := hI.blk id bk.1 bk.2 (at_some hbk).1
              have hvs := vals_rel e3 hcs
              have hvs' : vs = cs.toArray := by rw [← hvs]
              subst hvs'
              have hc : cargs = (.pointer (some ⟨b, 0, none⟩) :: us).toArray := by
                obtain ⟨l⟩ := cargs
                cases hA with
                | cons h1 h2 =>
                  rename_i x l'
                  cases h1 with
                  | ptr hd =>
                    rw [e1] at hd
                    cases hd
                    rw [vals_rel h2 hu]
              subst hc
              refine (hcall W b (ro_lt hR) (e2.plain (at_some hbk).2 hmb2.2)).mono ?_
              rintro e W' ⟨rfl, hg, hn⟩
              obtain ⟨x1, x2⟩ := hI.wrote (at_some hbk).1 (at_some hbk).2 e1 hg hn hone
              exact ⟨c, G, rfl, x1, x2.same rfl rfl, .v _⟩
            · cases hp
          · cases hp
        · cases hp
      · cases hp
    · cases hp
  · cases hp
/-- A function of plain values by its contract. -/
theorem pure_of_calls {ro : Nat → Option (List Value)} {g : FuncId} {spec : List Value → Option (Value × Bool)} (hf : ∃ fn, Try.prog.funcs[g]? = some fn ∧ fn.body.isSome = true)
    (h : ∀ us c, spec us = some (c, true) → ∀ W : World, Ro ro (G0 W) W → Calls Try.prog g us.toArray W fun e W' => e = .returned c ∧ Below W.heap.size W W') :
    ∀ args H r H', pure? spec args H = some (r, H') → HSound1 Try.prog ro g args H r H' := by
  refine pure_ok (fun us c hs G W cargs hI hR hA => ⟨hf, ?_⟩) hf
  have hc : cargs = us.toArray := by
    have := vals_rel hA (show vals? (us.map AV.v) = some us by
      clear hs hA
      induction us with
      | nil => rfl
      | cons u l ih => simp [vals?, AV.val?, ih])
    rw [← this]
  subst hc
  refine (h us c hs W (ro_lt hR)).mono ?_
  rintro e W' ⟨rfl, hb⟩
  obtain ⟨e1, e2⟩ := hI.below hb
  exact ⟨c, G, _, _, rfl, rfl, e1, e2, .v _⟩
end Go.Proofs.Ytdijakobocnceaa.AE
