/-
  The abstract run's operations stand for the program's.
-/
import Derived.Test.YtdijakobocnceaaAEOp
namespace Go.Proofs.Ytdijakobocnceaa.AE
set_option maxRecDepth 100000
open Go.RowKit
/-- What is taken for granted alone is more. -/
structure Same (H H' : AH) : Prop where
  b : H'.blks = H.blks
  t : H'.tips = H.tips
  mb : H'.mb = H.mb
  mc : H'.mc = H.mc
  sy : H'.sy = H.sy
theorem Same.refl (H : AH) : Same H H := ⟨rfl, rfl, rfl, rfl, rfl⟩
theorem Same.trans {a b c : AH} (h : Same a b) (k : Same b c) : Same a c := ⟨k.b.trans h.b, k.t.trans h.t, k.mb.trans h.mb, k.mc.trans h.mc, k.sy.trans h.sy⟩
theorem need_some {H H1 : AH} {p : Prop} [Decidable p] (h : need H p = some H1) : Same H H1 ∧ (H1.cd → H.cd ∧ p) := by
  unfold need at h
  split at h
  · cases h
    refine ⟨⟨rfl, rfl, rfl, rfl, rfl⟩, fun h => ?_⟩
    have h := cdb_iff.1 h
    exact ⟨h.1, of_decide_eq_true h.2⟩
  · split at h
    · rename_i hp; cases h; exact ⟨.refl _, fun h => ⟨h, hp⟩⟩
    · cases h
theorem grant_same (H : AH) (b : Bool) (p : Prop) : Same H (grant H b p) := ⟨rfl, rfl, rfl, rfl, rfl⟩
theorem conc_some {H H1 : AH} {b g : Bool} (h : conc H b = some (g, H1)) : Same H H1 ∧ (H1.cd → H.cd ∧ b = g) := by
  unfold conc at h
  split at h
  · split at h
    · split at h
      · cases h; exact ⟨⟨rfl, rfl, rfl, rfl, rfl⟩, fun h => h⟩
      · cases h; exact ⟨⟨rfl, rfl, rfl, rfl, rfl⟩, fun h => ⟨h, rfl⟩⟩
    · cases h; exact ⟨.refl _, fun h => ⟨h, rfl⟩⟩
  · cases h; exact ⟨.refl _, fun h => ⟨h, rfl⟩⟩
theorem pu_run {P : Program} {α : Type} (s : Sem α) (x : α) (w : World) (h : pu P s = some x) : s.run P w = .ok x w := by
  induction s with
  | pure a => simp only [pu, Option.some.injEq] at h; subst h; rfl
  | program k ih => exact ih P h
  | mark m k ih => exact ih h
  | _ => cases h
/-- What one operation comes to. -/
def OpRes (P : Program) (G : Gh) (W : World) (o : Oper) (a : Act) (r : AV) (H' : AH) : Prop :=
  ∃ G' W' nx c, (execOp a.eval o).run P W = .ok nx W' ∧ (nx = .value c ∨ (nx = .skip ∧ c = undef)) ∧ Ext G W G' W' ∧ Inv G' H' W' ∧ RV G' W' r c
section
variable {P : Program} {ro : Nat → Option (List Value)} {G : Gh} {H H' : AH} {W : World} {act : List AV} {a : Act} {o : Oper} {r : AV}
theorem OpRes.same (hI : Inv G H W) {c : Value} (h : (execOp a.eval o).run P W = .ok (.value c) W) (hr : RV G W r c) : OpRes P G W o a r H :=
  ⟨G, W, _, c, h, .inl rfl, Ext.refl _ _, hI, hr⟩
theorem ev_rel (hA : RVs G W act a.tmps.toList) (x : Operand) : RV G W (ev act x) (a.eval x) := by
  cases x with
  | tmp t =>
    simp only [ev, Act.eval, List.getD_eq_getElem?_getD, Array.getD_eq_getD_getElem?]
    cases e : act[t]? with
    | none =>
      have : a.tmps[t]? = none := by
        rw [List.getElem?_eq_none_iff] at e
        have := hA.len
        simp at this
        exact Array.getElem?_eq_none (by omega)
      simp [this]; exact .v _
    | some x =>
      obtain ⟨c, hc, hr⟩ := hA.get t x e
      have : a.tmps[t]? = some c := by simpa using hc
      simp [this]; exact hr
  | _ => exact .v _
theorem isV_rel (hA : RVs G W act a.tmps.toList) {x : Operand} (h : isV (ev act x) = true) : a.eval x = vOf (ev act x) := by
  have := ev_rel hA x
  revert this h
  cases ev act x <;> intro h hr <;> simp [isV] at h
  cases hr; rfl
theorem gen_run (hA : RVs G W act a.tmps.toList) (h : gen P act o = some r) : ∃ c, r = .v c ∧ ∀ w, (execOp a.eval o).run P w = .ok (.value c) w := by
  unfold gen at h
  split at h
  · cases h
  · rename_i hsel
    split at h
    · rename_i hall
      split at h
      · rename_i c hc
        simp only [Option.some.injEq] at h
        refine ⟨c, h.symm, fun w => ?_⟩
        rw [execOp_congr (ρ' := fun x => vOf (ev act x)) o (fun cs b e => hsel cs b e) (fun x hx => isV_rel hA (by
          rw [List.all_eq_true] at hall
          exact hall x (by simpa using hx)))]
        exact pu_run _ _ _ hc
      · cases h
    · cases h
theorem gen'_sound (hI : Inv G H W) (hA : RVs G W act a.tmps.toList) (h : gen' P act H o = some (r, H')) : OpRes P G W o a r H' := by
  unfold gen' at h
  split at h
  · rename_i r' hg
    simp only [Option.some.injEq, Prod.mk.injEq] at h
    obtain ⟨rfl, rfl⟩ := h
    obtain ⟨c, rfl, hc⟩ := gen_run hA hg
    exact .same hI (hc W) (.v _)
  · cases h
theorem withH_some {x : Option AV} (h : withH H x = some (r, H')) : x = some r ∧ H' = H := by
  unfold withH at h
  split at h
  · simp only [Option.some.injEq, Prod.mk.injEq] at h
    exact ⟨by rw [h.1], h.2.symm⟩
  · cases h
theorem sel_rel {t : Bool} {x y : AV} {c d : Value} (hx : RV G W x c) (hy : RV G W y d) : RV G W (sel t x y) (if t then c else d) := by
  have gen : RV G W (cond t x y) (if t then c else d) := by cases t <;> simp <;> assumption
  unfold sel
  split
  · cases hx; cases hy; cases t <;> simp <;> exact .v _
  · cases hx; cases hy
    split
    · rename_i hk; subst hk; cases t <;> simp <;> exact .v _
    · exact gen
  · exact gen
theorem one_rel {x : AV} {c : Value} (h : RV G W x c) (h1 : one x = true) : c.oneCell' = true := by
  cases h <;> simp_all [one, Value.oneCell']
theorem ones_rel {l : List AV} {cs : List Value} (h : RVs G W l cs) (h1 : l.all one = true) : ∀ u ∈ cs, u.oneCell' = true := by
  intro u hu
  obtain ⟨i, hi, rfl⟩ := List.getElem_of_mem hu
  obtain ⟨x, hx, hr⟩ := h.getV i _ (List.getElem?_eq_getElem hi)
  rw [List.all_eq_true] at h1
  exact one_rel hr (h1 x (List.mem_of_getElem? hx))
theorem one_cells {x : AV} (h : one x = true) : x.cells = [x] := by
  cases x with
  | v u => cases u <;> simp_all [one, Value.oneCell', AV.cells]
  | _ => simp_all [one, AV.cells]
theorem loadFrom_sound {t : TypeId} {cells : List AV} {vs : List Value} {b o off : Nat} (hv : RVs G W cells vs) (hc : ∀ (j : Nat) (u : Value), vs[j]? = some u → W.cell? ⟨b, o + j, none⟩ = some u)
    (h : loadFrom P t cells off = some r) : ∃ c, (Instr.loadAt t (.pointer (some ⟨b, o + off, none⟩))).run P W = .ok c W ∧ RV G W r c := by
  unfold loadFrom at h
  split at h
  · rename_i hrow
    split at h
    · rename_i n hn
      split at h
      · rename_i hle
        simp only [Option.some.injEq] at h
        subst h
        have hlen := hv.len
        have hl : ((vs.drop off).take n).length = n := by rw [List.length_take, List.length_drop]; omega
        unfold isRow? at hrow
        unfold sz? at hn
        cases hi : P.info? t with
        | none => rw [hi] at hn; cases hn
        | some i =>
          rw [hi] at hn
          simp only [Option.some.injEq] at hn
          refine ⟨_, run_loadAt_mid W b (o + off) t ((vs.drop off).take n) (P.underlying t |>.getD default) ?_ ?_ ?_ (by rw [hi, hl]; simp [hn]), mkAgg_rel (by simpa using (hv.drop off).take n)⟩
          · intro j u hu
            rw [List.getElem?_take] at hu
            split at hu
            · rw [List.getElem?_drop] at hu
              rw [Nat.add_assoc]; exact hc _ _ hu
            · cases hu
          · cases e : P.underlying t with
            | none => rw [e] at hrow; cases hrow
            | some d => rfl
          · cases e : P.underlying t with
            | none => rw [e] at hrow; cases hrow
            | some d => rw [e] at hrow; cases d <;> simp at hrow <;> rfl
      · cases h
    · cases h
  · rename_i hrow
    obtain ⟨c, hc1, hr⟩ := hv.get off r h
    refine ⟨c, ?_, hr⟩
    have hcell := hc off c hc1
    unfold isRow? at hrow
    have hagg : (isAgg t).run P W = .ok false W := by
      unfold isAgg
      cases e : P.underlying t with
      | none => rw [e] at hrow; cases hrow
      | some d =>
        rw [Sem.run_bind, run_underlying e W]
        rw [e] at hrow
        cases d <;> simp_all
    simp only [Instr.loadAt, Instr.sureAddr, Sem.run_bind, Sem.run_pure, Result.andThen_ok, loadVar, hagg, Bool.false_eq_true, if_false, Go.load, Sem.run, hcell]
  · cases h
/-- What the run takes for granted of the program's own variables. -/
def Ro (ro : Nat → Option (List Value)) (G : Gh) (W : World) : Prop := ∀ b cs, ro b = some cs → (∀ (j : Nat) (u : Value), cs[j]? = some u → G.prot b j ∧ W.cell? ⟨b, j, none⟩ = some u) ∧ ¬ G.own b ∧ ∃ t, W.heap[b]? = some (.cells cs.toArray t (0, 0))
theorem Ro.ext {G' : Gh} {W' : World} (h : Ro ro G W) (e : Ext G W G' W') : Ro ro G' W' := fun b cs hb => by
  obtain ⟨h1, h2, t, h3⟩ := h b cs hb
  have hlt : b < W.heap.size := by
    by_cases hlt : b < W.heap.size
    · exact hlt
    · rw [Array.getElem?_eq_none (by omega)] at h3; cases h3
  exact ⟨fun j u hu => ⟨e.prot _ _ (h1 j u hu).1, (e.cell _ _ (h1 j u hu).1).trans (h1 j u hu).2⟩, fun o => h2 (e.new b hlt o), t, (e.block b hlt h2).trans h3⟩
theorem load_sound (hI : Inv G H W) (hR : Ro ro G W) {t : TypeId} {x : AV} {c : Value} (hx : RV G W x c) (h : load P ro H t x = some (r, H')) : Same H H' ∧ (H'.cd → H.cd) ∧ (H'.cd → ∃ u, (Instr.loadAt t c).run P W = .ok u W ∧ RV G W r u) := by
  unfold load at h
  split at h
  · rename_i id off
    cases hx with
    | @ptr _ _ kb hd =>
      split at h
      · rename_i b hb
        split at h
        · rename_i r' hl
          cases h
          refine ⟨.refl _, fun h => h, fun _ => ?_⟩
          obtain ⟨k, vs, e1, e2, e3, _⟩ := hI.blk id b.1 b.2 (at_some hb).1
          rw [hd] at e1
          cases e1
          have := loadFrom_sound (o := 0) (b := kb) e3 (fun j u hu => by rw [Nat.zero_add]; rw [e2.cell (at_some hb).2]; simpa using hu) hl
          rwa [Nat.zero_add] at this
        · cases h
      · cases h
  · rename_i id off
    cases hx with
    | @pi _ _ kb hd =>
      split at h
      · rename_i b hb
        obtain ⟨k, vs, e1, e2, e3, _⟩ := hI.blk id b.1 b.2 (at_some hb).1
        rw [hd] at e1
        cases e1
        split at h
        · split at h
          · rename_i n ts hn hts
            split at h
            · rename_i r' hl
              cases h
              refine ⟨⟨rfl, rfl, rfl, rfl, rfl⟩, fun h => (cds_out shapes_ok h).1, fun hcd => ?_⟩
              have hc : (b.2.drop off).take n = _ := (cds_out shapes_ok hcd).2
              rw [← hc] at hl
              have := loadFrom_sound (o := off) (b := kb) (off := 0) ((e3.drop off).take n) (fun j u hu => by
                rw [List.getElem?_take] at hu
                split at hu
                · rw [List.getElem?_drop] at hu
                  rw [e2.cell (at_some hb).2]; simpa using hu
                · cases hu) hl
              exact this
            · cases h
          · cases h
        · split at h
          · rename_i r' hl
            cases h
            refine ⟨.refl _, fun h => h, fun _ => ?_⟩
            have := loadFrom_sound (o := 0) (b := kb) e3 (fun j u hu => by rw [Nat.zero_add]; rw [e2.cell (at_some hb).2]; simpa using hu) hl
            rwa [Nat.zero_add] at this
          · cases h
      · cases h
  · cases hx with
    | lp hc hm =>
      rename_i b off cs
      split at h
      · rename_i r' hl
        cases h
        refine ⟨.refl _, fun h => h, fun _ => ?_⟩
        by_cases hne : cs = []
        · subst hne
          cases hc
          exact loadFrom_sound (o := off) (b := b) (off := 0) .nil (fun j u hu => by simp at hu) hl
        · obtain ⟨b', off', e, hcell⟩ := hm.2 hne
          simp only [Option.some.injEq, Addr.mk.injEq, and_true] at e
          obtain ⟨rfl, rfl⟩ := e
          exact loadFrom_sound (o := off) (b := b) (off := 0) hc.rvs (fun j u hu => (hcell j u hu).2) hl
      · cases h
  · rename_i ad
    cases hx
    obtain ⟨b, off, spot⟩ := ad
    split at h
    · rename_i hs
      simp only at hs
      subst hs
      split at h
      · rename_i cs hcs
        split at h
        · split at h
          · rename_i n ts hn hts
            split at h
            · rename_i r' hl
              cases h
              refine ⟨⟨rfl, rfl, rfl, rfl, rfl⟩, fun h => (cds_out shapes_ok h).1, fun hcd => ?_⟩
              have hc : ((cs.map AV.v).drop off).take n = _ := (cds_out shapes_ok hcd).2
              rw [← hc] at hl
              have := loadFrom_sound (G := G) (W := W) (o := off) (b := b) (off := 0) (((RVs.map_v cs).drop off).take n) (fun j u hu => by
                rw [List.getElem?_take] at hu
                split at hu
                · rw [List.getElem?_drop] at hu
                  exact ((hR b cs hcs).1 _ u hu).2
                · cases hu) hl
              exact this
            · cases h
          · cases h
        · split at h
          · rename_i r' hl
            cases h
            refine ⟨.refl _, fun h => h, fun _ => ?_⟩
            have := loadFrom_sound (G := G) (o := 0) (b := b) (vs := cs) (RVs.map_v _) (fun j u hu => by rw [Nat.zero_add]; exact ((hR b cs hcs).1 j u hu).2) hl
            rwa [Nat.zero_add] at this
          · cases h
      · cases h
    · cases h
  · cases h
theorem ptr_rel {x : AV} {c : Value} {io : Nat × Nat} (hx : RV G W x c) (h : ptr? x = some io) : ∃ b, G.δ io.1 = some b ∧ c = .pointer (some ⟨b, io.2, none⟩) := by
  unfold ptr? at h
  split at h
  · cases h; cases hx with | ptr hd => exact ⟨_, hd, rfl⟩
  · cases h; cases hx with | pi hd => exact ⟨_, hd, rfl⟩
  · cases h
theorem not_dead {x : AV} (h : x.cells.all one = true) : x ≠ .dead := by
  rintro rfl
  simp [AV.cells, one] at h
theorem store_sound (hI : Inv G H W) {t : TypeId} {x y : AV} {c d : Value} (hx : RV G W x c) (hy : RV G W y d) (h : storeTo P H t x y = some H') : (H'.cd → H.cd) ∧ (H'.cd → ∃ W', (Instr.storeAt t d c).run P W = .ok () W' ∧ Ext G W G W' ∧ Inv G H' W') := by
  unfold storeTo at h
  split at h
  · rename_i io hio
    obtain ⟨k, hd, rfl⟩ := ptr_rel hy hio
    split at h
    · rename_i b hb
      split at h
      · rename_i n hn
        split at h
        · rename_i hc
          split at h
          · rename_i hone
            split at h
            · rename_i H1 hH1
              cases h
              obtain ⟨hS, hcd⟩ := need_some hH1
              refine ⟨fun h => (hcd h).1, fun h => ?_⟩
              obtain ⟨_, hc2⟩ := hcd h
              have hc1 := hc.1
              have hcells := hx.cells (not_dead hone)
              have hones := ones_rel hcells hone
              have hlen := hcells.len
              obtain ⟨k', vs, e1, e2, e3, e4⟩ := hI.blk io.1 b.1 b.2 (at_some hb).1
              rw [hd] at e1
              cases e1
              have hvl := e3.len
              have hst := hI.store (at_some hb).1 (at_some hb).2 hd hcells hones (by rw [hc1]; exact hc2)
              refine ⟨_, ?_, hst.1, hst.2.same rfl hS.t⟩
              have hcell : ∀ j, j < c.cells.toList.length → (W.cell? ⟨k, io.2 + j, none⟩).isSome = true := fun j hj => by
                rw [e2.cell (at_some hb).2]
                simp at hvl hlen
                rw [Array.getElem?_eq_getElem (by simp at hj; omega)]; rfl
              have hrun := run_storeCells_cells (P := P) k io.2 c.cells.toList 0 W (fun j hj => by simpa using hcell j hj) (fun j hj => e2.thaw (at_some hb).2 _ (by simp at hvl hlen hj; omega)) hones
              unfold sz? at hn
              cases hi : P.info? t with
              | none => rw [hi] at hn; cases hn
              | some i =>
                rw [hi] at hn
                simp only [Option.some.injEq] at hn
                have hs : c.cells.size = i.size := by simp at hlen; omega
                simp only [Nat.add_zero] at hrun
                simp [Instr.storeAt, Instr.sureAddr, storeVar, sizeOf, typeInfo, hi, hs, hrun]
            · cases h
          · cases h
        · cases h
      · cases h
    · cases h
  · cases h
theorem field_run {t : TypeId} {f off : Nat} {ft : TypeId} (h : field? P t f = some (off, ft)) (ad : Addr) (w : World) : (Instr.fieldAt t (.pointer (some ad)) f).run P w = .ok (.pointer (some (ad.add off))) w := by
  unfold field? at h
  split at h
  · rename_i fs hu
    split at h
    · rename_i fd hf
      split at h
      · rename_i n hs
        simp only [Option.some.injEq, Prod.mk.injEq] at h
        obtain ⟨rfl, rfl⟩ := h
        unfold sz? at hs
        cases hi : P.info? fd.type with
        | none => rw [hi] at hs; cases hs
        | some i =>
          rw [hi] at hs
          simp only [Option.some.injEq] at hs
          simp [Instr.fieldAt, run_underlying hu, hf, Instr.sureAddr, fieldPlace, sizeOf, typeInfo, hi, hs]
      · cases h
    · cases h
  · cases h
theorem add_plain' (b o j : Nat) : (⟨b, o, none⟩ : Addr).add j = ⟨b, o + j, none⟩ := Addr.add_mid b o j
theorem Mem.drop {pr : Nat → Nat → Prop} {b off k : Nat} {cs : List Value} (h : Mem pr W (some ⟨b, off, none⟩) cs) : Mem pr W (some ⟨b, off + k, none⟩) (cs.drop k) :=
  ⟨fun u hu => h.1 u (List.mem_of_mem_drop hu), fun hne => ⟨b, off + k, rfl, fun j u hu => by
    rw [List.getElem?_drop] at hu
    have hcs : cs ≠ [] := by rintro rfl; simp at hu
    obtain ⟨b', off', e, hc⟩ := h.2 hcs
    simp only [Option.some.injEq, Addr.mk.injEq, and_true] at e
    obtain ⟨rfl, rfl⟩ := e
    rw [Nat.add_assoc]; exact hc _ _ hu⟩⟩
theorem fieldAddr_sound {t : TypeId} {f : Nat} {x : AV} {c : Value} (hx : RV G W x c) (h : fieldAddr P t f x = some r) : ∃ u, (Instr.fieldAt t c f).run P W = .ok u W ∧ RV G W r u := by
  unfold fieldAddr at h
  split at h
  · rename_i o ft hf
    split at h
    · cases hx with
      | ptr hd => cases h; exact ⟨_, (field_run hf _ W).trans (by rw [add_plain']), .ptr hd⟩
    · cases hx with
      | pi hd => cases h; exact ⟨_, (field_run hf _ W).trans (by rw [add_plain']), .pi hd⟩
    · cases hx with
      | lp hc hm => cases h; exact ⟨_, (field_run hf _ W).trans (by rw [add_plain']), .lp (hc.drop _) hm.drop⟩
    · rename_i ad
      cases hx
      obtain ⟨b, off, spot⟩ := ad
      split at h
      · rename_i hs
        simp only at hs
        subst hs
        cases h
        exact ⟨_, (field_run hf _ W).trans (by rw [add_plain']), .v _⟩
      · cases h
    · cases h
  · cases h
end
end Go.Proofs.Ytdijakobocnceaa.AE
