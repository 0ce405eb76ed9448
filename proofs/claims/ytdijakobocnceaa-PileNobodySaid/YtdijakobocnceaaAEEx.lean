/-
  More operations: structs of unknown fields that are compared; a row that is cleared.
-/
import Derived.Test.YtdijakobocnceaaAEMap
import Derived.Laws.StructEq
namespace Go.Proofs.Ytdijakobocnceaa.AE
set_option maxRecDepth 100000
open Go.RowKit
/-- Are two values of a type the same? -/
def eqFs (f : TypeId → Value → Value → Option Bool) (pt : TypeId → Array Value → Nat → Option Value) (xs ys : Array Value) : List Field → Option Bool
  | [] => some true
  | fd :: fs => match decide (fd.name ≠ "_") with
    | true => match pt fd.type xs fd.offset, pt fd.type ys fd.offset with
      | some a, some b => match f fd.type a b with
        | some r => match eqFs f pt xs ys fs with
          | some q => some (r && q)
          | none => none
        | none => none
      | _, _ => none
    | false => eqFs f pt xs ys fs
def eqD (P : Program) : Nat → TypeId → Value → Value → Option Bool
  | 0, _, _, _ => none
  | d + 1, t, x, y => match P.underlying t with
    | some .bool => match x, y with
      | .bool a, .bool b => some (a == b)
      | _, _ => none
    | some (.int _) => match x, y with
      | .int k a, .int k' b => if k = k' then some (a == b) else none
      | _, _ => none
    | some .string => match x, y with
      | .string a, .string b => some (a == b)
      | _, _ => none
    | some (.struct fs) => match x, y with
      | .agg xs, .agg ys => match P.stoodInHeld t with
        | true => none
        | false => eqFs (eqD P d) (fun t cs o => pu P (part t cs o)) xs ys fs.toList
      | _, _ => none
    | _ => none
def eqOp (P : Program) (t : TypeId) (x y : AV) : Option Bool := match x, y with
  | .v (.agg xs), .v (.agg ys) => match P.eqGuardType P.depth t with
    | true => none
    | false => eqD P 16 t (.agg xs) (.agg ys)
  | _, _ => none
/-- A row of the run's own is cleared. -/
def clearTo (E : EI) (H : AH) (d : AV) : Option (AV × AH) := match d with
  | .sl id off len _ => match H.at id with
    | some b => if H.mb ≤ id then match need H (off + len * E.size ≤ b.2.length) with
      | some H1 => some (.v (.tuple #[]), { H1 with blks := H.blks.set id (b.1, splice b.2 off ((List.replicate len (E.z.cells.toList.map .v)).flatten)) })
      | none => none
      else none
    | none => none
  | _ => none
def opX (P : Program) (act : List AV) (H : AH) (o : Oper) : Option (AV × AH) := match o.op with
  | .binOp b t x y _ => match b with
    | .eql => match eqOp P t (ev act x) (ev act y) with
      | some r => some (.v (.bool r), H)
      | none => none
    | .neq => match eqOp P t (ev act x) (ev act y) with
      | some r => some (.v (.bool (!r)), H)
      | none => none
    | _ => none
  | .call c => match c.callee with
    | .builtin .clear => match c.args.toList, c.argTypes.toList with
      | [x], [t] => match einfo P t with
        | some E => clearTo E H (ev act x)
        | none => none
      | _, _ => none
    | _ => none
  | _ => none
/-- A pointer against nil: also one of which is known only what it is one of. -/
def nilA (x : AV) : Bool := match x with
  | .v (.pointer none) => true
  | _ => false
def okNil (x : AV) : Bool := match x with
  | .v (.pointer _) => true
  | .ptr _ _ => true
  | .pi _ _ => true
  | .lp _ => true
  | _ => false
def isNilC (y : AV) : Bool := match y with
  | .v (.pointer none) => true
  | _ => false
def opN (P : Program) (act : List AV) (H : AH) (o : Oper) : Option (AV × AH) := match o.op with
  | .binOp b t x y _ => match isNilC (ev act y) with
    | true => match isPtr? P t with
      | true => match b with
        | .eql => some (.v (.bool (nilA (ev act x))), { H with cd := cdb H.cd (okNil (ev act x)) })
        | .neq => some (.v (.bool (!(nilA (ev act x)))), { H with cd := cdb H.cd (okNil (ev act x)) })
        | _ => none
      | false => none
    | false => none
  | _ => none
/-- Any operation but a call of a function. -/
def op2 (P : Program) (ro : Nat → Option (List Value)) (act : List AV) (H : AH) (o : Oper) : Option (AV × AH) := match opN P act H o with
  | some r => some r
  | none => match opM P act H o with
    | some r => some r
    | none => match opX P act H o with
      | some r => some r
      | none => op1 P ro act H o
section
variable {P : Program} {ro : Nat → Option (List Value)} {G : Gh} {H H' : AH} {W : World} {act : List AV} {a : Act} {o : Oper} {r : AV}
theorem eqFs_run {f : TypeId → Value → Value → Option Bool} {d : Nat} (hf : ∀ t x y b w, f t x y = some b → (Op.equalIn d t x y).run P w = .ok b w) (xs ys : Array Value) :
    ∀ (fs : List Field) (b : Bool) (w : World), eqFs f (fun t cs o => pu P (part t cs o)) xs ys fs = some b → (Op.eqFields d xs ys fs).run P w = .ok b w
  | [], b, w, h => by cases h; rfl
  | fd :: fs, b, w, h => by
    unfold eqFs at h
    unfold Op.eqFields
    split at h
    · rename_i hn
      rw [if_pos (of_decide_eq_true hn)]
      split at h
      · rename_i x y hx hy
        split at h
        · rename_i r hr
          split at h
          · rename_i q hq
            cases h
            simp only [Sem.run_bind, pu_run _ _ w hx, pu_run _ _ w hy, hf _ _ _ _ w hr, Result.andThen_ok]
            cases r with
            | true => simpa using eqFs_run hf xs ys fs q w hq
            | false => simp
          · cases h
        · cases h
      · cases h
    · rename_i hn
      rw [if_neg (of_decide_eq_false hn)]
      exact eqFs_run hf xs ys fs b w h
theorem eqD_run : ∀ (d D : Nat) (t : TypeId) (x y : Value) (b : Bool) (w : World), d ≤ D → eqD P d t x y = some b → (Op.equalIn D t x y).run P w = .ok b w
  | 0, _, _, _, _, _, _, _, h => by cases h
  | d + 1, 0, _, _, _, _, _, hD, _ => by omega
  | d + 1, D + 1, t, x, y, b, w, hD, h => by
    unfold eqD at h
    split at h
    · rename_i hu
      split at h
      · cases h; exact run_equalIn_bool' w D t _ _ hu
      · cases h
    · rename_i hu
      split at h
      · split at h
        · rename_i hk; subst hk; cases h; exact run_equalIn_int w D t _ _ _ _ hu
        · cases h
      · cases h
    · rename_i hu
      split at h
      · cases h; rw [run_equalIn_string w D t _ _ hu, beq_toListBytes]
      · cases h
    · rename_i fs hu
      split at h
      · split at h
        · cases h
        · rename_i hp
          have hfo : P.fieldsOf t = fs := by unfold Program.fieldsOf; rw [hu]
          rw [run_equalIn_struct w D t _ _ (by rw [hfo]; exact hu) hp, hfo]
          exact eqFs_run (fun t x y b w h => eqD_run d D t x y b w (by omega) h) _ _ _ _ _ h
      · cases h
    · cases h
theorem eqOp_run {t : TypeId} {x y : Operand} {b : Bool} (hA : RVs G W act a.tmps.toList) (h : eqOp P t (ev act x) (ev act y) = some b) :
    (do eqGuard .eql t x y (a.eval x) (a.eval y); binOp .eql t (a.eval x) (a.eval y)).run P W = .ok (.bool b) W ∧ (do eqGuard .neq t x y (a.eval x) (a.eval y); binOp .neq t (a.eval x) (a.eval y)).run P W = .ok (.bool (!b)) W := by
  have hx := ev_rel hA x
  have hy := ev_rel hA y
  unfold eqOp at h
  split at h
  · rename_i xs ys ex ey
    rw [ex] at hx
    rw [ey] at hy
    generalize a.eval x = u at hx
    generalize a.eval y = v at hy
    cases hx
    cases hy
    split at h
    · cases h
    · rename_i hg
      have hr := eqD_run 16 10000 t _ _ b W (by decide) h
      constructor
      · simp only [Sem.run_bind, run_eqGuard_agg W _ t x y xs ys hg, Result.andThen_ok, run_eql_struct, hr]
      · simp only [Sem.run_bind, run_eqGuard_agg W _ t x y xs ys hg, Result.andThen_ok, run_neq_struct, hr]
  · cases h
theorem clearTo_sound (hI : Inv G H W) {E : EI} {t ty : TypeId} (hE : einfo P t = some E) {s : AV} {c : Value} (hs : RV G W s c) (h : clearTo E H s = some (r, H')) (hcd : H'.cd) : Comes1 P G W (Builtin.clear_ #[t] ty #[c]) r H' := by
  obtain ⟨hu, i, hi, hib, his, hz, hzs, hpos, h1⟩ := einfo_some hE
  unfold clearTo at h
  split at h
  · rename_i id off len cap
    split at h
    · rename_i b hb
      split at h
      · rename_i hmb
        split at h
        · rename_i H1 hH1
          cases h
          obtain ⟨hS, hc'⟩ := need_some hH1
          have hc := (hc' hcd).2
          cases hs with
          | @sl _ _ _ _ k hd =>
            obtain ⟨k', vs, e1, e2, e3, e4⟩ := hI.blk id b.1 b.2 (at_some hb).1
            rw [hd] at e1
            cases e1
            have hlen := e3.len
            simp at hlen
            have hzl : E.z.cells.toList.length = E.size := by simpa using hzs
            let us : List Value := (List.replicate len E.z.cells.toList).flatten
            have hul : us.length = len * E.size := by simp [us, hzl]
            have hxs : (List.replicate len (E.z.cells.toList.map AV.v)).flatten = us.map AV.v := by simp [us, List.map_flatten]
            have hones : ∀ u ∈ us, u.oneCell' = true := fun u hu => by
              obtain ⟨l', hl, hu⟩ := List.mem_flatten.1 hu
              rw [List.eq_of_mem_replicate hl] at hu
              exact h1 u hu
            have hst := hI.store (off := off) (xs := us.map AV.v) (us := us) (at_some hb).1 (at_some hb).2 hd (RVs.map_v us) hones (by rw [List.length_map, hul]; omega)
            have hrun := run_storeCells_cells (P := P) k off us 0 W (fun j hj => by
                rw [e2.cell (at_some hb).2]
                rw [Array.getElem?_eq_getElem (by rw [hul] at hj; omega)]; rfl) (fun j hj => e2.thaw (at_some hb).2 _ (by rw [hul] at hj; omega)) hones
            rw [Nat.add_zero] at hrun
            refine ⟨G, _, .tuple #[], ?_, hst.1, hst.2.same (by show H.blks.set id _ = H.blks.set id _; rw [hxs]) hS.t, .v _⟩
            have hzc : (Builtin.zeroCells E.z.cells len).toList = us := by
              have := made_list E.z.cells (by omega) len
              unfold madeCells at this
              exact this
            cases len with
            | zero =>
              have hu0 : us = [] := by simp [us]
              rw [hu0]
              simp [Builtin.clear_, run_underlying hu, World.setCells]
            | succ n =>
              simp [Builtin.clear_, run_underlying hu, zeroValue, typeInfo, hi, hz, hzc, hrun]
        · cases h
      · cases h
    · cases h
  · cases h
theorem clearTo_keep {E : EI} {s : AV} (h : clearTo E H s = some (r, H')) : Keep H H' := by
  unfold clearTo at h
  split at h
  · split at h
    · split at h
      · rename_i hc
        split at h
        · rename_i hn
          cases h
          exact .setS (need_keep hn) (need_some hn).1 hc
        · cases h
      · cases h
    · cases h
  · cases h
theorem opX_keep (h : opX P act H o = some (r, H')) : Keep H H' := by
  unfold opX at h
  split at h
  · split at h
    · split at h <;> first | (cases h; exact .refl _) | cases h
    · split at h <;> first | (cases h; exact .refl _) | cases h
    · cases h
  · split at h
    · split at h
      · split at h
        · exact clearTo_keep h
        · cases h
      · cases h
    · cases h
  · cases h
theorem opX_sound (hI : Inv G H W) (hA : RVs G W act a.tmps.toList) (h : opX P act H o = some (r, H')) (hcd : H'.cd) : OpRes P G W o a r H' := by
  unfold opX at h
  split at h
  · rename_i b t x y yt hop
    split at h
    · split at h
      · rename_i q hq
        cases h
        refine .same hI (c := .bool q) ?_ (.v _)
        rw [execOp, hop]
        simp only [Sem.run_bind]
        have := (eqOp_run (P := P) hA hq).1
        simp only [Sem.run_bind] at this
        rw [this]; rfl
      · cases h
    · split at h
      · rename_i q hq
        cases h
        refine .same hI (c := .bool (!q)) ?_ (.v _)
        rw [execOp, hop]
        simp only [Sem.run_bind]
        have := (eqOp_run (P := P) hA hq).2
        simp only [Sem.run_bind] at this
        rw [this]; rfl
      · cases h
    · cases h
  · rename_i c hop
    split at h
    · rename_i hcal
      split at h
      · rename_i x t hargs htys
        split at h
        · rename_i E hE
          obtain ⟨G', W', u, h1, h2, h3, h4⟩ := clearTo_sound (ty := o.type) hI hE (ev_rel hA x) h hcd
          refine ⟨G', W', .value u, u, ?_, .inl rfl, h2, h3, h4⟩
          rw [execOp, hop]
          simp [resolve, hcal, list1 hargs, list1 htys, invoke, builtin, h1]
        · cases h
      · cases h
    · cases h
  · cases h
theorem opN_some (h : opN P act H o = some (r, H')) : ∃ (b : BinOp) (t : TypeId) (x y : Operand) (yt : TypeId), o.op = .binOp b t x y yt ∧ isNilC (ev act y) = true ∧ isPtr? P t = true ∧ H' = { H with cd := cdb H.cd (okNil (ev act x)) } ∧ ((b = .eql ∧ r = .v (.bool (nilA (ev act x)))) ∨ (b = .neq ∧ r = .v (.bool (!(nilA (ev act x)))))) := by
  unfold opN at h
  split at h
  · rename_i b t x y yt hop
    split at h
    · rename_i hn
      split at h
      · rename_i hp
        split at h
        · cases h; exact ⟨_, t, x, y, yt, hop, hn, hp, rfl, .inl ⟨rfl, rfl⟩⟩
        · cases h; exact ⟨_, t, x, y, yt, hop, hn, hp, rfl, .inr ⟨rfl, rfl⟩⟩
        · cases h
      · cases h
    · cases h
  · cases h
theorem nilA_run {t : TypeId} {x y : AV} {c d : Value} (hx : RV G W x c) (hy : RV G W y d) (hn : isNilC y = true) (hp : isPtr? P t = true) (hk : okNil x = true) (w : World) : (∀ p q, (eqGuard .eql t p q c d).run P w = .ok () w ∧ (eqGuard .neq t p q c d).run P w = .ok () w) ∧
    (binOp .eql t c d).run P w = .ok (.bool (nilA x)) w ∧ (binOp .neq t c d).run P w = .ok (.bool (!(nilA x))) w := by
  have hy : d = .pointer none := by
    unfold isNilC at hn
    split at hn
    · cases hy; rfl
    · cases hn
  subst hy
  obtain ⟨e, hu⟩ := isPtr_u hp
  have hcb : ∃ q, c = .pointer q ∧ nilA x = q.isNone := by
    unfold okNil at hk
    split at hk
    · rename_i q
      cases hx
      refine ⟨q, rfl, ?_⟩
      cases q <;> rfl
    · cases hx; exact ⟨_, rfl, rfl⟩
    · cases hx; exact ⟨_, rfl, rfl⟩
    · cases hx; exact ⟨_, rfl, rfl⟩
    · cases hk
  obtain ⟨q, rfl, hb⟩ := hcb
  rw [hb]
  have he1 : (Op.equalIn (9999 + 1) t (.pointer q) (.pointer none)).run P w = .ok q.isNone w := by
    unfold Op.equalIn
    cases q <;> simp [run_underlying hu]
  have he : (Op.equal t (.pointer q) (.pointer none)).run P w = .ok q.isNone w := he1
  refine ⟨fun p q => ⟨?_, ?_⟩, ?_, ?_⟩
  · simp [eqGuard]
  · simp [eqGuard]
  · unfold binOp; simp [he]
  · unfold binOp; simp [he]
theorem opN_keep (h : opN P act H o = some (r, H')) : Keep H H' := by
  obtain ⟨b, t, x, y, yt, _, _, _, rfl, _⟩ := opN_some h
  exact Same.keep ⟨rfl, rfl, rfl, rfl, rfl⟩ fun x => (cdb_iff.1 x).1
theorem opN_sound (hI : Inv G H W) (hA : RVs G W act a.tmps.toList) (h : opN P act H o = some (r, H')) (hcd : H'.cd) : OpRes P G W o a r H' := by
  obtain ⟨b, t, x, y, yt, hop, hn, hp, rfl, hr⟩ := opN_some h
  obtain ⟨h2, h3, h4⟩ := nilA_run (ev_rel hA x) (ev_rel hA y) hn hp (cdb_iff.1 hcd).2 W
  rcases hr with ⟨rfl, rfl⟩ | ⟨rfl, rfl⟩
  · exact .ghost hI ⟨rfl, rfl, rfl, rfl, rfl⟩ (c := .bool (nilA (ev act x))) (by rw [execOp, hop]; simp [(h2 x y).1, h3]) (.v _)
  · exact .ghost hI ⟨rfl, rfl, rfl, rfl, rfl⟩ (c := .bool (!(nilA (ev act x)))) (by rw [execOp, hop]; simp [(h2 x y).2, h4]) (.v _)
theorem opN_congr {act' : List AV} (h : ∀ x ∈ o.op.operands.toList, ev act x = ev act' x) : opN P act H o = opN P act' H o := by
  unfold opN
  cases hop : o.op with
  | binOp b t x y yt =>
    rw [hop] at h
    simp only [h x (by simp [Op.operands]), h y (by simp [Op.operands])]
  | _ => rfl
theorem op2_keep (h : op2 P ro act H o = some (r, H')) : Keep H H' := by
  unfold op2 at h
  split at h
  · rename_i q hq; cases h; exact opN_keep hq
  · split at h
    · rename_i q hq; cases h; exact opM_keep hq
    · split at h
      · rename_i q hq; cases h; exact opX_keep hq
      · exact op1_keep h
theorem op2_sound (hI : Inv G H W) (hR : Ro ro G W) (hA : RVs G W act a.tmps.toList) (h : op2 P ro act H o = some (r, H')) (hcd : H'.cd) : OpRes P G W o a r H' := by
  unfold op2 at h
  split at h
  · rename_i q hq; cases h; exact opN_sound hI hA hq hcd
  · split at h
    · rename_i q hq; cases h; exact opM_sound hI hA hq hcd
    · split at h
      · rename_i q hq; cases h; exact opX_sound hI hA hq hcd
      · exact op1_sound hI hR hA h hcd
theorem putM_congr {act' : List AV} {t : TypeId} {m ix x : Operand} (h1 : ev act m = ev act' m) (h2 : ev act ix = ev act' ix) (h3 : ev act x = ev act' x) : opM.putM P act H t m ix x = opM.putM P act' H t m ix x := by
  unfold opM.putM
  simp only [h1, h2, h3]
theorem opM_congr {act' : List AV} (h : ∀ x ∈ o.op.operands.toList, ev act x = ev act' x) : opM P act H o = opM P act' H o := by
  unfold opM
  cases hop : o.op with
  | lookup t x ix ok =>
    rw [hop] at h
    simp only [h x (by simp [Op.operands]), h ix (by simp [Op.operands])]
  | mapUpdate t m ix x =>
    rw [hop] at h
    exact putM_congr (h m (by simp [Op.operands])) (h ix (by simp [Op.operands])) (h x (by simp [Op.operands]))
  | insert t m ix x =>
    rw [hop] at h
    exact putM_congr (h m (by simp [Op.operands])) (h ix (by simp [Op.operands])) (h x (by simp [Op.operands]))
  | binOp b t x y yt =>
    rw [hop] at h
    simp only [h x (by simp [Op.operands]), h y (by simp [Op.operands])]
  | call c =>
    rw [hop] at h
    simp only
    have hm : ∀ x ∈ c.args.toList, ev act x = ev act' x := fun x hx => h x (by simp [Op.operands, Call.operands]; exact .inr (by simpa using hx))
    cases hc : c.callee with
    | builtin b =>
      cases b with
      | len =>
        cases hl : c.args.toList with
        | nil => rfl
        | cons x l =>
          rw [hl] at hm
          have hx := hm x (by simp)
          cases l with
          | cons _ _ => rfl
          | nil => cases c.argTypes.toList with
            | nil => rfl
            | cons t l' => cases l' with
              | nil => simp only [hx]
              | cons _ _ => rfl
      | clear =>
        cases hl : c.args.toList with
        | nil => rfl
        | cons x l =>
          rw [hl] at hm
          have hx := hm x (by simp)
          cases l with
          | cons _ _ => rfl
          | nil => cases c.argTypes.toList with
            | nil => rfl
            | cons t l' => cases l' with
              | nil => simp only [hx]
              | cons _ _ => rfl
      | delete =>
        cases hl : c.args.toList with
        | nil => rfl
        | cons x l =>
          cases l with
          | nil => rfl
          | cons y l =>
            rw [hl] at hm
            have hx := hm x (by simp)
            have hy := hm y (by simp)
            cases l with
            | cons _ _ => rfl
            | nil => cases c.argTypes.toList with
              | nil => rfl
              | cons t l' => simp only [hx, hy]
      | _ => rfl
    | _ => rfl
  | _ => rfl
theorem opX_congr {act' : List AV} (h : ∀ x ∈ o.op.operands.toList, ev act x = ev act' x) : opX P act H o = opX P act' H o := by
  unfold opX
  cases hop : o.op with
  | binOp b t x y yt =>
    rw [hop] at h
    simp only [h x (by simp [Op.operands]), h y (by simp [Op.operands])]
  | call c =>
    rw [hop] at h
    simp only
    have hm : ∀ x ∈ c.args.toList, ev act x = ev act' x := fun x hx => h x (by simp [Op.operands, Call.operands]; exact .inr (by simpa using hx))
    cases hc : c.callee with
    | builtin b =>
      cases b with
      | clear =>
        cases hl : c.args.toList with
        | nil => rfl
        | cons x l =>
          rw [hl] at hm
          have hx := hm x (by simp)
          cases l with
          | cons _ _ => rfl
          | nil => cases c.argTypes.toList with
            | nil => rfl
            | cons t l' => cases l' with
              | nil => simp only [hx]
              | cons _ _ => rfl
      | _ => rfl
    | _ => rfl
  | _ => rfl
end
end Go.Proofs.Ytdijakobocnceaa.AE
