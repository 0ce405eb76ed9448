/-
  Copy, make, literals and conversions of the abstract run stand for the program's; every operation but a call of a function.
-/
import Derived.Test.YtdijakobocnceaaAEOpW
namespace Go.Proofs.Ytdijakobocnceaa.AE
set_option maxRecDepth 100000
open Go.RowKit
section
variable {P : Program} {ro : Nat → Option (List Value)} {G : Gh} {H H' : AH} {W : World} {act : List AV} {a : Act} {o : Oper} {r : AV}
theorem copyTo_sound (hI : Inv G H W) {E : EI} {t tx ty : TypeId} (hE : einfo P t = some E) {s : AV} {ys : List AV} {c d : Value} (hs : RV G W s c) {news : List Value} (n1 : PVs G.prot W (ys.flatMap AV.cells) news) (n2 : ∀ y ∈ ys, y.cells.length = E.size) (n3 : Src P E.size tx d ys.length news W)
    (n4 : ∀ k, k ≤ ys.length → (Builtin.firstCells E.size k d).run P W = .ok (news.take (k * E.size)).toArray W) (h : copyTo E H s ys = some (r, H')) : (H'.cd → H.cd) ∧ (H'.cd → Comes1 P G W (Builtin.copy_ #[t, tx] ty #[c, d]) r H') := by
  obtain ⟨hu, i, hi, hib, his, hz, hzs, hpos, _⟩ := einfo_some hE
  unfold copyTo at h
  split at h
  · rename_i id off len cap
    split at h
    · rename_i b hb
      split at h
      · rename_i hmb
        split at h
        · rename_i H1 hH1
          cases h
          obtain ⟨hS, hcd⟩ := need_some hH1
          refine ⟨fun h => (hcd h).1, fun h => ?_⟩
          have hc := (hcd h).2
          cases hs with
          | @sl _ _ _ _ k hd =>
            obtain ⟨k', vs, e1, e2, e3, e4⟩ := hI.blk id b.1 b.2 (at_some hb).1
            rw [hd] at e1
            cases e1
            have hlen := e3.len
            simp at hlen
            have hm : min ys.length len ≤ ys.length := Nat.min_le_left _ _
            have hm2 : min ys.length len ≤ len := Nat.min_le_right _ _
            have hml : min ys.length len * E.size ≤ len * E.size := Nat.mul_le_mul_right _ hm2
            have hfl : ((ys.take (min ys.length len)).flatMap AV.cells).length = min ys.length len * E.size := by
              rw [flat_len _ (fun x hx => n2 x (List.mem_of_mem_take hx)), List.length_take, Nat.min_eq_left hm]
            have hnr : PVs G.prot W ((ys.take (min ys.length len)).flatMap AV.cells) (news.take (min ys.length len * E.size)) := by
              have := n1.take (min ys.length len * E.size)
              rwa [flat_take ys _ n2] at this
            have hnl : (news.take (min ys.length len * E.size)).length = min ys.length len * E.size := by rw [← hnr.len, hfl]
            have hones : ∀ u ∈ news.take (min ys.length len * E.size), u.oneCell' = true := fun u hu => n3.one u (List.mem_of_mem_take hu)
            have hst := hI.store (off := off) (at_some hb).1 (at_some hb).2 hd hnr.rvs hones (by rw [hfl]; omega)
            have hrun := run_storeCells_cells (P := P) k off (news.take (min ys.length len * E.size)) 0 W (fun j hj => by
                rw [e2.cell (at_some hb).2]
                rw [Array.getElem?_eq_getElem (by rw [hnl] at hj; omega)]; rfl) (fun j hj => e2.thaw (at_some hb).2 _ (by rw [hnl] at hj; omega)) hones
            rw [Nat.add_zero] at hrun
            refine ⟨G, _, .int .i64 (min ys.length len : Nat), ?_, hst.1, hst.2.same rfl hS.t, .v _⟩
            have hln := n3.len W
            have hfc := n4 (min ys.length len) hm
            simp [Builtin.copy_, run_underlying hu, hln, sizeOf, typeInfo, hi, his, hfc, hrun, goInt]
        · cases h
      · cases h
    · cases h
  · cases h
theorem range_mul (s : Nat) (f : Nat → Value) (hf : ∀ i, f (i + s) = f i) : ∀ c, (List.range (c * s)).map f = (List.replicate c ((List.range s).map f)).flatten
  | 0 => by simp
  | c + 1 => by
    have hk : ∀ c i, f (c * s + i) = f i := by
      intro c
      induction c with
      | zero => intro i; simp
      | succ c ih => intro i; rw [Nat.add_mul, Nat.one_mul, Nat.add_right_comm, hf, ih]
    rw [List.replicate_succ', List.flatten_append, ← range_mul s f hf c, Nat.add_mul, Nat.one_mul, List.range_add, List.map_append]
    simp [hk]
theorem made_list (z : Array Value) (_ : 0 < z.size) (c : Nat) : (madeCells z (c * z.size)).toList = (List.replicate c z.toList).flatten := by
  unfold madeCells
  simp only [Array.toList_map, Array.toList_range]
  rw [range_mul z.size (fun i => z[i % z.size]!) (fun i => by simp)]
  congr 2
  apply List.ext_getElem
  · simp
  · intro i h1 h2
    simp at h1
    simp [Nat.mod_eq_of_lt h1, h1]
theorem makeS_sound (hI : Inv G H W) {E : EI} {t : TypeId} (hE : einfo P t = some E) {l c : Int} (kl kc : IntKind) (h : makeS E H l c = some (r, H')) : (H'.cd → H.cd) ∧ (H'.cd → Comes1 P G W (Instr.makeSlice t (.int kl l) (.int kc c)) r H') := by
  obtain ⟨hu, i, hi, hib, his, hz, hzs, hpos, h1⟩ := einfo_some hE
  unfold makeS at h
  split at h
  · rename_i H1 hH1
    cases h
    obtain ⟨hS, hcd⟩ := need_some hH1
    refine ⟨fun h => (hcd h).1, fun h => ?_⟩
    have hc := (hcd h).2
    have hr := run_make (P := P) W t E.e i E.z hu hi hz kl kc l c hc.1 hc.2.1 (by rw [hib]; omega) hc.2.2.2
    rw [his] at hr
    have hml := made_list E.z.cells (by omega) c.toNat
    rw [hzs] at hml
    have hcells : (if E.size = 1 then List.replicate c.toNat (AV.v (E.z.cells.toList.headD undef)) else (List.replicate c.toNat (E.z.cells.toList.map AV.v)).flatten) = (madeCells E.z.cells (c.toNat * E.size)).toList.map AV.v := by
      rw [hml]
      split
      · rename_i e1
        have hz1 : E.z.cells.toList.length = 1 := by simp [hzs, e1]
        match E.z.cells.toList, hz1 with
        | [u], _ => simp
      · simp [List.map_flatten]
    obtain ⟨G', e1, e2, e3⟩ := newP_sound (t := E.e) hI (einfo_ne hE) (cs := if E.size = 1 then List.replicate c.toNat (AV.v (E.z.cells.toList.headD undef)) else (List.replicate c.toNat (E.z.cells.toList.map AV.v)).flatten) (vs := madeCells E.z.cells (c.toNat * E.size)) (by
      rw [hcells]; exact RVs.map_v _) (by
      rw [hml]
      intro u hu
      obtain ⟨l', hl, hu⟩ := List.mem_flatten.1 hu
      rw [List.eq_of_mem_replicate hl] at hu
      exact h1 u hu)
    cases e3 with
    | ptr hd => exact ⟨G', _, _, hr, e1, e2.same (by show H.blks ++ _ = H.blks ++ _; rfl) hS.t, .sl hd⟩
  · cases h
theorem makeR_sound (hI : Inv G H W) {E : EI} {t : TypeId} (hE : einfo P t = some E) {c : Int} (kl kc : IntKind) (h : makeR E H c = some (r, H')) : (H'.cd → H.cd) ∧ (H'.cd → Comes1 P G W (Instr.makeSlice t (.int kl 0) (.int kc c)) r H') := by
  obtain ⟨hu, i, hi, hib, his, hz, hzs, hpos, h1⟩ := einfo_some hE
  unfold makeR at h
  split at h
  · rename_i H1 hH1
    cases h
    obtain ⟨hS, hcd⟩ := need_some hH1
    refine ⟨fun h => (hcd h).1, fun h => ?_⟩
    have hc := (hcd h).2
    have hr := run_make (P := P) W t E.e i E.z hu hi hz kl kc 0 c (by omega) hc.1 (by rw [hib]; omega) hc.2.2
    rw [his] at hr
    have hsz : (madeCells E.z.cells (c.toNat * E.size)).size = c.toNat * E.size := by unfold madeCells; simp
    obtain ⟨e1, e2⟩ := hI.tipBlk (TipsOn.fresh hI) (e := E.e) (n := 0) (cells := []) (sz := E.size) (cap := c.toNat) (C := madeCells E.z.cells (c.toNat * E.size)) (by simp) (fun j u hj => by simp at hj) (Nat.zero_le _) (by unfold maxLen; omega) hsz (W1 := W) ⟨rfl, rfl, rfl, rfl⟩ (fr := (0, 0)) (fun j hj => by simp)
    exact ⟨_, _, _, hr, e1, e2.same hS.b rfl, .lst (cs := []) rfl .nil (fun x hx => by cases hx) ⟨by simp, fun hne => absurd rfl hne⟩ (Nat.zero_le _) (by unfold maxLen; omega) (tip_ok _ _)⟩
  · cases h
theorem foldl_set (off : Nat) : ∀ (xs : List AV) (us : List Value) (k : Nat) (cs : List AV) (vs : Array Value), RVs G W xs us → RVs G W cs vs.toList →
    RVs G W ((xs.zipIdx k).foldl (fun cs c => cs.set (off + c.2) c.1) cs) ((us.zipIdx k).foldl (fun cs c => cs.setIfInBounds (off + c.2) c.1) vs).toList
  | [], us, k, cs, vs, h, hc => by cases h; exact hc
  | x :: xs, us, k, cs, vs, h, hc => by
    cases h with
    | @cons _ u _ us hx ht =>
      rw [List.zipIdx_cons, List.zipIdx_cons, List.foldl_cons, List.foldl_cons]
      exact foldl_set off xs us (k + 1) _ _ ht (by rw [Array.toList_setIfInBounds]; exact hc.set _ hx)
/-- The parts of a literal. -/
inductive Parts (G : Gh) (W : World) : List (Nat × AV) → List (Nat × Value) → Prop where
  | nil : Parts G W [] []
  | cons {i : Nat} {x : AV} {c : Value} {l : List (Nat × AV)} {m : List (Nat × Value)} (h : RV G W x c) (t : Parts G W l m) : Parts G W ((i, x) :: l) ((i, c) :: m)
theorem parts_rel (hA : RVs G W act a.tmps.toList) : ∀ l : List (Nat × Operand), Parts G W (l.map fun p => (p.1, ev act p.2)) (l.map fun p => (p.1, a.eval p.2))
  | [] => .nil
  | p :: l => .cons (ev_rel hA p.2) (parts_rel hA l)
theorem fill_rel (place place' : Nat → Option (Nat × Nat)) (hp : ∀ i, place' i = place i) : ∀ (l : List (Nat × AV)) (m : List (Nat × Value)) (cs : List AV) (vs : Array Value) (q : List AV), Parts G W l m → RVs G W cs vs.toList → fillA place cs l = some q →
    ∃ ws, Instr.fill place' vs m = some ws ∧ RVs G W q ws.toList
  | [], m, cs, vs, q, h, hc, hq => by cases h; cases hq; exact ⟨vs, rfl, hc⟩
  | (i, x) :: l, m, cs, vs, q, h, hc, hq => by
    cases h with
    | @cons _ _ c _ m hx ht =>
      unfold fillA at hq
      split at hq
      · cases hq
      · rename_i off size hpl
        split at hq
        · cases hq
        · rename_i hno
          have h1 := hx.cells (by
            rintro rfl
            simp [isDead] at hno)
          have h1l := h1.len
          have h2l := hc.len
          simp at h1l h2l
          have := foldl_set off _ _ 0 _ _ h1 hc
          obtain ⟨ws, hw, hr⟩ := fill_rel place place' hp l m _ ((c.cells.toList.zipIdx.foldl (fun cs c => cs.setIfInBounds (off + c.2) c.1) vs)) q ht this hq
          refine ⟨ws, ?_, hr⟩
          unfold Instr.fill
          rw [hp, hpl]
          simp only
          rw [if_neg (by rw [← h1l, ← h2l]; intro q; exact hno (by rw [q]; rfl))]
          rw [← hw]
          congr 1
          rw [← Array.foldl_toList, Array.toList_zipIdx]
theorem purs_one : ∀ {l r : List AV}, purs? l = some r → l.all one = true → ∀ (k : Nat) (y : AV), r[k]? = some y → one y = true
  | [], r, h, _, k, y, hy => by simp only [purs?, Option.some.injEq] at h; subst h; simp at hy
  | x :: l, r, h, h1, k, y, hy => by
    unfold purs? at h
    rw [List.all_cons, Bool.and_eq_true] at h1
    split at h
    · rename_i z hz
      split at h
      · rename_i q hq
        cases h
        cases k with
        | zero =>
          simp only [List.getElem?_cons_zero, Option.some.injEq] at hy
          subst hy
          unfold pur? at hz
          split at hz
          · cases hz; exact h1.1
          · cases hz; rfl
          · cases hz
        | succ k => exact purs_one hq h1.2 k y (by simpa using hy)
      · cases h
    · cases h
theorem none0_some {len : Nat} {parts : List (Nat × AV)} (h : none0 len parts = true) : len = 0 ∧ parts = [] := by
  unfold none0 at h
  split at h
  · exact ⟨rfl, List.isEmpty_iff.1 h⟩
  · cases h
theorem run_build0 (W : World) (t e : TypeId) (i : TypeInfo) (hu : P.underlying t = some (.slice e)) (hi : P.info? e = some i) : (Instr.buildSlice t 0 #[]).run P W = .ok (.slice (some ⟨W.heap.size, 0, none⟩) 0 0) (W.alloc (.cells #[] e)) := by
  have e0 : ∀ f : Nat → Value, Array.map f (Array.range 0) = #[] := fun f => Array.eq_empty_of_size_eq_zero (by simp)
  simp [Instr.buildSlice, run_underlying hu, sizeOf, typeInfo, hi, Instr.fill, run_newRow]
  rw [e0]
theorem buildS_sound (hI : Inv G H W) {E : EI} {t : TypeId} (hE : einfo P t = some E) {len : Nat} {l : List (Nat × AV)} {m : Array (Nat × Value)} (hp : Parts G W l m.toList) (h : buildS E H len l = some (r, H')) : Comes1 P G W (Instr.buildSlice t len m) r H' := by
  obtain ⟨hu, i, hi, hib, his, hz, hzs, hpos, h1⟩ := einfo_some hE
  unfold buildS at h
  split at h
  · rename_i h0
    obtain ⟨rfl, rfl⟩ := none0_some h0
    cases h
    have hm : m = #[] := by
      cases m with
      | mk ml =>
        have hp : Parts G W [] ml := hp
        cases hp; rfl
    subst hm
    obtain ⟨e1, e2, _⟩ := hI.pro #[] E.e (W1 := W) ⟨rfl, rfl, rfl, rfl⟩ (0, 0)
    exact ⟨_, _, _, run_build0 W t E.e i hu hi, e1, e2, .lst (cs := []) rfl .nil (fun x hx => by cases hx) ⟨by simp, fun hne => absurd rfl hne⟩ (Nat.le_refl _) (Nat.zero_le _) rfl⟩
  split at h
  · rename_i hc
    split at h
    · rename_i cells hcells
      split at h
      · rename_i hone
        split at h
        · rename_i cs hcs
          split at h
          · rename_i hlen
            cases h
            have hbase : RVs G W ((List.range (len * E.size)).map fun i => (AV.v (E.z.cells.toList[i % E.z.cells.toList.length]!))) ((Array.range (len * E.size)).map fun i => E.z.cells[i % E.z.cells.size]!).toList := by
              rw [Array.toList_map, Array.toList_range]
              have : (fun i => AV.v (E.z.cells.toList[i % E.z.cells.toList.length]!)) = AV.v ∘ (fun i => E.z.cells[i % E.z.cells.size]!) := by
                funext i
                simp only [Function.comp, Array.length_toList]
                rw [getElem!_def, getElem!_def, Array.getElem?_toList]
              rw [this, ← List.map_map]
              exact RVs.map_v _
            obtain ⟨ws, hw, hr⟩ := fill_rel _ (fun i => some (i * E.size, E.size)) (fun _ => rfl) _ _ _ _ _ hp hbase hcells
            have hpos2 : ¬ len * E.size = 0 := by have := Nat.mul_pos hc.1 hpos; omega
            have hrun := run_buildSlice (P := P) W t E.e len m ws i E.z hu hi hz (by rw [his]; omega) (by rw [his]; exact hpos2) (by rw [his]; exact hw)
            obtain ⟨e1, e2, e3⟩ := hI.pro ws E.e (W1 := W) ⟨rfl, rfl, rfl, rfl⟩ (0, 0)
            have hones := ones_rel hr hone
            have hpr := purs_rel hr hcs
            have hpl := hpr.len
            have hlt : len ≤ len * E.size := Nat.le_mul_of_pos_right _ hpos
            have hone2 : (cs.take (len * E.size)).all one = true := by
              rw [List.all_eq_true]
              intro x hx
              obtain ⟨k, hk, rfl⟩ := List.getElem_of_mem (List.mem_of_mem_take hx)
              exact purs_one hcs hone k _ (List.getElem?_eq_getElem hk)
            obtain ⟨c1, c2⟩ := chunks_flat hpos len cs (by omega) hone2
            rw [List.take_of_length_le (by omega)] at c1
            refine ⟨_, _, _, hrun, e1, e2, .lst (cs := ws.toList) (chunks_len _ _ _ (by omega)).symm (by rw [c1]; exact hpr.ext e1) c2 ⟨hones, fun _ => ⟨W.heap.size, 0, rfl, fun j u hj => ⟨.inr rfl, ?_⟩⟩⟩ (Nat.le_refl _) (by simp only [maxLen]; omega) rfl⟩
            rw [Nat.zero_add]
            exact (e3 j).trans (by simpa using hj)
          · cases h
        · cases h
      · cases h
    · cases h
  · cases h
theorem places_run : ∀ (l : List Field) (pl : List (Nat × Nat)), places? P l = some pl → ∀ w, (l.mapM fun f => (do pure (f.offset, ← sizeOf f.type) : Sem (Nat × Nat))).run P w = .ok pl w
  | [], pl, h, w => by simp only [places?, Option.some.injEq] at h; subst h; simp [List.mapM_nil]
  | f :: l, pl, h, w => by
    unfold places? at h
    split at h
    · rename_i s hs
      split at h
      · rename_i r hr
        cases h
        obtain ⟨i, hi, his⟩ := sz_info hs
        have ih := places_run l r hr w
        have hs' : (do pure (f.offset, ← sizeOf f.type) : Sem (Nat × Nat)).run P w = .ok (f.offset, s) w := by simp [sizeOf, typeInfo, hi, his]
        rw [List.mapM_cons, Sem.run_bind, hs', Result.andThen_ok, Sem.run_bind, ih]
        rfl
      · cases h
    · cases h
theorem buildA_sound {t : TypeId} {l : List (Nat × AV)} {m : Array (Nat × Value)} (hp : Parts G W l m.toList) (h : buildA P t l = some r) : ∃ c, (Instr.build t m).run P W = .ok c W ∧ RV G W r c := by
  unfold buildA at h
  split at h
  · rename_i z hz
    have hzr : (zeroValue t).run P W = .ok z W := by
      unfold zero? at hz
      cases hi : P.info? t with
      | none => rw [hi] at hz; cases hz
      | some i => rw [hi] at hz; simp only at hz; simp [zeroValue, typeInfo, hi, hz]
    split at h
    · rename_i fs hu
      split at h
      · rename_i pl hpl
        split at h
        · rename_i cells hcells
          cases h
          obtain ⟨ws, hw, hr⟩ := fill_rel _ (fun i => pl.toArray[i]?) (fun i => by simp) _ _ _ z.cells _ hp (RVs.map_v _) hcells
          refine ⟨.agg ws, ?_, mkAgg_rel hr⟩
          have hpr := places_run fs.toList pl hpl W
          unfold Instr.build
          simp only [Sem.run_bind, hzr, Result.andThen_ok, run_underlying hu W, Array.mapM_eq_mapM_toList, Sem.run_map, hpr]
          have hw' : Instr.fill (fun x => pl[x]?) z.cells m.toList = some ws := by simpa using hw
          simp [hw']
        · cases h
      · cases h
    · rename_i n e hu
      split at h
      · rename_i s hs
        split at h
        · rename_i cells hcells
          cases h
          obtain ⟨i, hi, his⟩ := sz_info hs
          obtain ⟨ws, hw, hr⟩ := fill_rel _ (fun i => some (i * s, s)) (fun i => rfl) _ _ _ z.cells _ hp (RVs.map_v _) hcells
          refine ⟨.agg ws, ?_, mkAgg_rel hr⟩
          unfold Instr.build
          simp [hzr, run_underlying hu W, sizeOf, typeInfo, hi, his, hw]
        · cases h
      · cases h
    · cases h
  · cases h
theorem fieldA_sound {t : TypeId} {f : Nat} {x : AV} {c : Value} (hx : RV G W x c) (h : fieldA P t f x = some r) : ∃ u, (Instr.field t c f).run P W = .ok u W ∧ RV G W r u := by
  unfold fieldA at h
  split at h
  · rename_i cells
    cases hx with
    | @agg _ cs hc =>
      split at h
      · rename_i off ft hf
        unfold field? at hf
        split at hf
        · rename_i fs hu
          split at hf
          · rename_i fd hfd
            split at hf
            · rename_i n hs
              cases hf
              obtain ⟨i, hi, his⟩ := sz_info hs
              unfold loadFrom at h
              have hlen := hc.len
              simp at hlen
              split at h
              · rename_i hrow
                rw [hs] at h
                simp only at h
                split at h
                · rename_i hle
                  cases h
                  refine ⟨.agg (cs.extract fd.offset (fd.offset + (n + 1))), ?_, mkAgg_rel ?_⟩
                  · have hagg : (isAgg fd.type).run P W = .ok true W := by
                      unfold isRow? at hrow
                      unfold isAgg
                      cases e : P.underlying fd.type with
                      | none => rw [e] at hrow; cases hrow
                      | some d =>
                        rw [Sem.run_bind, run_underlying e W]
                        rw [e] at hrow
                        cases d <;> simp_all
                    simp [Instr.field, run_underlying hu, hfd, asAgg, part, hagg, sizeOf, typeInfo, hi, his]
                  · simp only [Array.toList_extract, List.extract_eq_take_drop, Nat.add_sub_cancel_left]
                    exact (hc.drop _).take _
                · cases h
              · rename_i hrow
                obtain ⟨u, hu', hr⟩ := hc.get fd.offset r h
                refine ⟨u, ?_, hr⟩
                have hagg : (isAgg fd.type).run P W = .ok false W := by
                  unfold isRow? at hrow
                  unfold isAgg
                  cases e : P.underlying fd.type with
                  | none => rw [e] at hrow; cases hrow
                  | some d =>
                    rw [Sem.run_bind, run_underlying e W]
                    rw [e] at hrow
                    cases d <;> simp_all
                have : cs[fd.offset]? = some u := by simpa using hu'
                simp [Instr.field, run_underlying hu, hfd, asAgg, part, hagg, this]
              · cases h
            · cases hf
          · cases hf
        · cases hf
      · cases h
  · cases h
end
end Go.Proofs.Ytdijakobocnceaa.AE
