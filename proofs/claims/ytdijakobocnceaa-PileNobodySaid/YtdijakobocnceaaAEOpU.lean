/-
  Each operation of the abstract run but a call of a function.
-/
import Derived.Test.YtdijakobocnceaaAEOpT
namespace Go.Proofs.Ytdijakobocnceaa.AE
set_option maxRecDepth 100000
open Go.RowKit
section
variable {P : Program} {ro : Nat → Option (List Value)} {G : Gh} {H H' : AH} {W : World} {act : List AV} {a : Act} {o : Oper} {r : AV}
theorem evs_rel (hA : RVs G W act a.tmps.toList) (l : List Operand) : RVs G W (l.map (ev act)) (l.map a.eval) := by
  induction l with
  | nil => exact .nil
  | cons x l ih => exact .cons (ev_rel hA x) ih
theorem newP_sound (hI : Inv G H W) {t : TypeId} (hm : OkT t) {cs : List AV} {vs : Array Value} (hr : RVs G W cs vs.toList) (hone : ∀ u ∈ vs.toList, u.oneCell' = true) :
    ∃ G', Ext G W G' (W.alloc (.cells vs t)) ∧ Inv G' (newP H t cs).2 (W.alloc (.cells vs t)) ∧ RV G' (W.alloc (.cells vs t)) (newP H t cs).1 (.pointer (some ⟨W.heap.size, 0, none⟩)) := by
  obtain ⟨G', e, i, d⟩ := hI.new t hm hr hone
  exact ⟨G', e, i, .ptr d⟩
theorem run_newRow {t : TypeId} {vs : Array Value} (w : World) : (newRow t vs).run P w = .ok ⟨w.heap.size, 0, none⟩ (w.alloc (.cells vs t)) := by
  rfl
theorem isFn_u {t : TypeId} (h : isFn? P t = true) : ∃ x y z, P.underlying t = some (.func x y z) := by
  unfold isFn? at h
  split at h
  · exact ⟨_, _, _, by assumption⟩
  · cases h
theorem isSl_u {t : TypeId} (h : isSl? P t = true) : ∃ x, P.underlying t = some (.slice x) := by
  unfold isSl? at h
  split at h
  · exact ⟨_, by assumption⟩
  · cases h
theorem isPtr_u {t : TypeId} (h : isPtr? P t = true) : ∃ x, P.underlying t = some (.pointer x) := by
  unfold isPtr? at h
  split at h
  · exact ⟨_, by assumption⟩
  · cases h
theorem eqIn_nil {t : TypeId} {x y : AV} {c d : Value} (hx : RV G W x c) (hy : RV G W y d) (h : nilEq P t x y = true) (n : Nat) (w : World) : (Op.equalIn (n + 1) t c d).run P w = .ok false w := by
  unfold nilEq at h
  split at h
  all_goals first | (cases h; done) | (replace h := isPtr_u h) | (replace h := isFn_u h) | (replace h := isSl_u h)
  all_goals
    cases hx; cases hy
    first
      | (obtain ⟨e, hu⟩ := h; unfold Op.equalIn; simp [run_underlying hu]; done)
      | (obtain ⟨e, e', e'', hu⟩ := h; unfold Op.equalIn; simp [run_underlying hu]; done)
theorem nilEq_sound {t : TypeId} {x y : AV} {c d : Value} (hx : RV G W x c) (hy : RV G W y d) (h : nilEq P t x y = true) (w : World) : (∀ p q, (eqGuard .eql t p q c d).run P w = .ok () w ∧ (eqGuard .neq t p q c d).run P w = .ok () w) ∧
    (binOp .eql t c d).run P w = .ok (.bool false) w ∧ (binOp .neq t c d).run P w = .ok (.bool true) w := by
  have he : (Op.equal t c d).run P w = .ok false w := eqIn_nil hx hy h 9999 w
  unfold nilEq at h
  split at h
  all_goals first | (cases h; done) | skip
  all_goals
    cases hx; cases hy
    refine ⟨fun p q => ⟨?_, ?_⟩, ?_, ?_⟩
    · simp [eqGuard]
    · simp [eqGuard]
    · unfold binOp; simp [he]
    · unfold binOp; simp [he]
theorem len_sound {t ty : TypeId} {x : AV} {c : Value} {n : Int} (hx : RV G W x c) (hv : isV x = false) (hs : isSlice? P t = true) (h : len? x = some n) (w : World) : (Builtin.len_ #[t] ty #[c]).run P w = .ok (.int .i64 n) w := by
  unfold isSlice? at hs
  split at hs
  · rename_i e hu
    unfold len? at h
    split at h
    · cases hx with
      | lst hn => cases h; simp [Builtin.len_, run_underlying hu, goInt, hn]
    · cases hx with
      | sl => cases h; simp [Builtin.len_, run_underlying hu, goInt]
    · simp [isV] at hv
    · simp [isV] at hv
    · cases h
  · cases hs
theorem OpRes.ghost (hI : Inv G H W) (hS : Same H H') {c : Value} (h : (execOp a.eval o).run P W = .ok (.value c) W) (hr : RV G W r c) : OpRes P G W o a r H' :=
  ⟨G, W, _, c, h, .inl rfl, Ext.refl _ _, hI.same hS.b hS.t, hr⟩
theorem op0_sound (hI : Inv G H W) (hR : Ro ro G W) (hA : RVs G W act a.tmps.toList) (h : op0 P ro act H o = some (r, H')) (hcd : H'.cd) : OpRes P G W o a r H' := by
  have hg : gen' P act H o = some (r, H') → OpRes P G W o a r H' := gen'_sound hI hA
  unfold op0 at h
  split at h
  · rename_i x hop
    cases h
    exact .same hI (c := a.eval x) (by rw [execOp, hop]; rfl) (ev_rel hA x)
  · rename_i x hop
    cases h
    exact .same hI (c := a.eval x) (by rw [execOp, hop]; rfl) (ev_rel hA x)
  · rename_i c x y hop
    split at h
    · rename_i t ht
      cases h
      have hc := ev_rel hA c
      rw [ht] at hc
      have hcv : a.eval c = .bool t := by
        generalize a.eval c = u at hc
        cases hc; rfl
      refine .same hI (c := if t then a.eval x else a.eval y) ?_ (sel_rel (ev_rel hA x) (ev_rel hA y))
      rw [execOp, hop]
      simp [hcv, asBool]
    · cases h
  · rename_i e hop
    split at h
    · rename_i z hz
      split at h
      · rename_i h1
        cases h
        obtain ⟨G', e1, e2, e3⟩ := newP_sound (t := e) hI h1.2 (cs := z.cells.toList.map .v) (vs := z.cells) (RVs.map_v _) (List.all_eq_true.1 h1.1)
        refine ⟨G', _, _, _, ?_, .inl rfl, e1, e2, e3⟩
        unfold zero? at hz
        cases hi : P.info? e with
        | none => rw [hi] at hz; cases hz
        | some i =>
          rw [hi] at hz
          rw [execOp, hop]
          simp only at hz
          simp [Instr.alloc, zeroValue, typeInfo, hi, hz, newVar, run_newRow]
      · cases h
    · cases h
  · rename_i e x hop
    split at h
    · rename_i h1
      cases h
      have hr := (ev_rel hA x).cells (not_dead h1.1)
      obtain ⟨G', e1, e2, e3⟩ := newP_sound (t := e) hI h1.2 hr (ones_rel hr h1.1)
      refine ⟨G', _, _, _, ?_, .inl rfl, e1, e2, e3⟩
      rw [execOp, hop]
      simp [Instr.box, newVar, run_newRow]
    · cases h
  · rename_i t x hop
    obtain ⟨hS, _, h2⟩ := load_sound hI hR (ev_rel hA x) h
    obtain ⟨u, hu, hr⟩ := h2 hcd
    exact .ghost hI hS (c := u) (by rw [execOp, hop]; simp [hu]) hr
  · rename_i t x y hop
    split at h
    · rename_i H2 hs
      cases h
      obtain ⟨W', h1, h2, h3⟩ := (store_sound hI (ev_rel hA y) (ev_rel hA x) hs).2 hcd
      exact ⟨G, W', .skip, undef, by rw [execOp, hop]; simp [h1], .inr ⟨rfl, rfl⟩, h2, h3, .v _⟩
    · cases h
  · rename_i x hop
    have hx := ev_rel hA x
    split at h
    · rename_i id off hx'
      cases h
      rw [hx'] at hx
      cases e : a.eval x <;> rw [e] at hx <;> cases hx
      rename_i b hd
      exact .same hI (c := a.eval x) (by rw [execOp, hop]; simp [e]) (by rw [e]; exact .ptr hd)
    · rename_i id off hx'
      cases h
      rw [hx'] at hx
      cases e : a.eval x <;> rw [e] at hx <;> cases hx
      rename_i b hd
      exact .same hI (c := a.eval x) (by rw [execOp, hop]; simp [e]) (by rw [e]; exact .pi hd)
    · rename_i cs hx'
      cases h
      rw [hx'] at hx
      cases e : a.eval x <;> rw [e] at hx <;> cases hx
      exact .same hI (c := a.eval x) (by rw [execOp, hop]; simp [e]) (by rw [e]; exact .lp (by assumption) (by assumption))
    · rename_i g p q hx'
      cases h
      rw [hx'] at hx
      cases e : a.eval x <;> rw [e] at hx <;> cases hx
      rename_i h1 h2
      exact .same hI (c := a.eval x) (by rw [execOp, hop]; simp [e]) (by rw [e]; exact .fn h1 h2)
    · exact hg h
  · rename_i t x f hop
    obtain ⟨hl, rfl⟩ := withH_some h
    obtain ⟨u, hu, hr⟩ := fieldAddr_sound (ev_rel hA x) hl
    exact .same hI (c := u) (by rw [execOp, hop]; simp [hu]) hr
  · rename_i t x i hop
    split at h
    · rename_i n hn
      obtain ⟨k, hk⟩ := intOf_rel hA hn
      obtain ⟨hS, _, h2⟩ := indexAddr_sound k (ev_rel hA x) h
      obtain ⟨u, hu, hr⟩ := h2 hcd
      exact .ghost hI hS (c := u) (by rw [execOp, hop]; simp [hk, hu]) hr
    · cases h
  · rename_i t x lo hi mx hop
    split at h
    · exact hg h
    · obtain ⟨hS, _, h2⟩ := slice_sound hA (ev_rel hA x) h
      obtain ⟨u, hu, hr⟩ := h2 hcd
      exact .ghost hI hS (c := u) (by rw [execOp, hop]; simp [hu]) hr
  · rename_i x i hop
    obtain ⟨hl, rfl⟩ := withH_some h
    obtain ⟨u, hu, hr⟩ := extract_sound (P := P) (ev_rel hA x) hl
    exact .same hI (c := u) (by rw [execOp, hop]; simp only [Sem.run_bind, hu, Result.andThen_ok, Sem.run_pure]) hr
  · rename_i b t x y yt hop
    split at h
    · split at h
      · rename_i hn
        cases h
        obtain ⟨h2, h3, h4⟩ := nilEq_sound (ev_rel hA x) (ev_rel hA y) hn W
        exact .same hI (c := .bool false) (by rw [execOp, hop]; simp [(h2 x y).1, h3]) (.v _)
      · exact hg h
    · split at h
      · rename_i hn
        cases h
        obtain ⟨h2, h3, h4⟩ := nilEq_sound (ev_rel hA x) (ev_rel hA y) hn W
        exact .same hI (c := .bool true) (by rw [execOp, hop]; simp [(h2 x y).2, h4]) (.v _)
      · exact hg h
    · split at h
      · rename_i p q hp hq
        split at h
        · rename_i H1 hH1
          cases h
          obtain ⟨hS, hc⟩ := need_some hH1
          have hle := (hc hcd).2
          have h1 := isV_rel hA (x := x) (by rw [hp]; rfl)
          have h2 := isV_rel hA (x := y) (by rw [hq]; rfl)
          rw [hp] at h1
          rw [hq] at h2
          refine .ghost hI hS (c := .string (p ++ q)) ?_ (.v _)
          rw [execOp, hop]
          have hno : ¬ 9223372036854775807 < (p.size : Int) + (q.size : Int) := by omega
          simp [h1, h2, vOf, eqGuard, binOp, Op.stringOp, hno]
        · cases h
      · exact hg h
    · exact hg h
  · rename_i t x i hop
    split at h
    · rename_i q n hq hn
      split at h
      · rename_i hst
        split at h
        · rename_i H1 hH1
          cases h
          obtain ⟨hS, hc⟩ := need_some hH1
          obtain ⟨h0, hlt⟩ := (hc hcd).2
          have h1 := isV_rel hA (x := x) (by rw [hq]; rfl)
          rw [hq] at h1
          obtain ⟨k, hk⟩ := intOf_rel hA hn
          have hu : P.underlying t = some .string := by
            unfold isStr? at hst
            split at hst
            · assumption
            · cases hst
          refine .ghost hI hS (c := .int .u8 ((q.data.getD n.toNat 0).toNat : Nat)) ?_ (.v _)
          rw [execOp, hop]
          have hlt' : n.toNat < q.data.size := hlt
          have hg : q[n.toNat]? = some q.data[n.toNat] := getElem?_pos q n.toNat hlt
          have hd : q.data.getD n.toNat 0 = q.data[n.toNat] := by rw [Array.getD_eq_getD_getElem?, Array.getElem?_eq_getElem hlt']; rfl
          simp only [h1, vOf, hk, Instr.index, Sem.run_bind, asIntOf, Sem.run_pure, Result.andThen_ok, run_underlying hu, h0, if_true, hg, hd]
        · cases h
      · cases h
    · exact hg h
  · rename_i f p q hop
    cases h
    refine .same hI (c := .func f (p.map a.eval) (q.map a.eval)) (by rw [execOp, hop]; simp [Instr.makeFunc]) (.fn ?_ ?_)
    · rw [Array.toList_map]; exact evs_rel hA _
    · rw [Array.toList_map]; exact evs_rel hA _
  · rename_i c hop
    split at h
    · rename_i hcal
      split at h
      · rename_i x t hargs htys
        split at h
        · rename_i n hn
          split at h
          · exact hg h
          · rename_i hv
            split at h
            · rename_i hs
              cases h
              have hargs' : c.args = #[x] := by cases hq : c.args; rw [hq] at hargs; simp at hargs; subst hargs; rfl
              have htys' : c.argTypes = #[t] := by cases hq : c.argTypes; rw [hq] at htys; simp at htys; subst htys; rfl
              refine .same hI (c := .int .i64 n) ?_ (.v _)
              have hl := len_sound (ty := o.type) (ev_rel hA x) (by simpa using hv) hs hn W
              rw [execOp, hop]
              simp [resolve, hcal, hargs', htys', invoke, builtin, hl]
            · cases h
        · exact hg h
      · cases h
    · exact hg h
    · cases h
  · exact hg h
end
end Go.Proofs.Ytdijakobocnceaa.AE
