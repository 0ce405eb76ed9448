/-
  What is known of a call that looks at blocks of the run's own, leaves them as they are, and answers a plain value.
-/
import Derived.Test.YtdijakobocnceaaAELook
namespace Go.Proofs.Ytdijakobocnceaa.AE
set_option maxRecDepth 100000
open Go.RowKit
/-- A value that has the same number in another numbering and back. -/
def rtB (x : AV) : Bool := match x with
  | .v _ => true
  | .ptr _ _ => true
  | .pi _ _ => true
  | .mp _ => true
  | .lp _ => true
  | .dead => true
  | _ => false
def rtM : List Bool → List (TypeId × List AV) → Bool
  | [], [] => true
  | p :: ms, b :: bs => match p with
    | true => rtM ms bs
    | false => b.2.all rtB && rtM ms bs
  | _, _ => false
structure PeekS where
  pick : List AV → AH → Option (List Nat)
  mask : List Bool
  spec : List AV → List (TypeId × List AV) → Option (AV × Bool)
def peek? (S : PeekS) (args : List AV) (H : AH) : Ans := match S.pick args H with
  | some ids => match nodupB ids with
    | true => match pickB H ids with
      | some bl => match rtM S.mask bl with
        | true => match mapIs (idxI ids) args with
          | some ar => match mapM (idxI ids) S.mask bl with
            | some bs => match S.spec ar bs.1 with
              | some rb => match isV rb.1 with
                | true => some (rb.1, { H with cd := cdb H.cd (rb.2 && bs.2) })
                | false => none
              | none => none
            | none => none
          | none => none
        | false => none
      | none => none
    | false => none
  | none => none
theorem rt_back {ids : List Nat} {n0 : Nat} {x y : AV} (hb : rtB x = true) (h : mapI (idxI ids) x = some y) : mapI (bigI n0 ids 0) y = some x := by
  cases x with
  | v u => cases h; rfl
  | ptr id o =>
    simp only [mapI] at h
    split at h
    · rename_i j hj
      cases h
      simp only [mapI, bigI, idxI_some hj]
    · cases h
  | pi id o =>
    simp only [mapI] at h
    split at h
    · rename_i j hj
      cases h
      simp only [mapI, bigI, idxI_some hj]
    · cases h
  | mp id =>
    simp only [mapI] at h
    split at h
    · rename_i j hj
      cases h
      simp only [mapI, bigI, idxI_some hj]
    · cases h
  | lp cs => cases h; rfl
  | dead => cases h; rfl
  | _ => cases hb
theorem rt_backs {ids : List Nat} {n0 : Nat} : ∀ {l q : List AV}, l.all rtB = true → mapIs (idxI ids) l = some q → mapIs (bigI n0 ids 0) q = some l
  | [], q, _, h => by cases h; rfl
  | x :: l, q, hb, h => by
    rw [List.all_cons, Bool.and_eq_true] at hb
    obtain ⟨y, q', h1, h2, rfl⟩ := mapIs_cons h
    simp only [mapIs, rt_back hb.1 h1, rt_backs hb.2 h2]
theorem rtM_back {ids : List Nat} {n0 : Nat} : ∀ {ms : List Bool} {bl bs : List (TypeId × List AV)}, rtM ms bl = true → mapM (idxI ids) ms bl = some (bs, true) → ∀ (i : Nat) (x : TypeId × List AV), bl[i]? = some x → ∃ cs, bs[i]? = some (x.1, cs) ∧ MapB (bigI n0 ids 0) cs x.2
  | [], [], bs, _, h, i, x, hx => by simp at hx
  | p :: ms, b :: bl, bs, hr, h, i, x, hx => by
    unfold rtM at hr
    unfold mapM at h
    split at h
    · split at h
      · rename_i q hq
        obtain ⟨q1, q2⟩ := q
        simp only [Option.some.injEq, Prod.mk.injEq, Bool.and_eq_true] at h
        obtain ⟨rfl, h1, rfl⟩ := h
        cases i with
        | zero => simp at hx; subst hx; exact ⟨_, rfl, .inl ⟨rfl, h1⟩⟩
        | succ i => simpa using rtM_back hr hq i x (by simpa using hx)
      · cases h
    · simp only [Bool.and_eq_true] at hr
      split at h
      · rename_i c hc
        split at h
        · rename_i q hq
          obtain ⟨q1, q2⟩ := q
          simp only [Option.some.injEq, Prod.mk.injEq] at h
          obtain ⟨rfl, rfl⟩ := h
          cases i with
          | zero => simp at hx; subst hx; exact ⟨_, rfl, .inr (rt_backs hr.1 hc)⟩
          | succ i => simpa using rtM_back hr.2 hq i x (by simpa using hx)
        · cases h
      · cases h
  | [], _ :: _, bs, _, h, _, _, _ => by cases h
  | _ :: _, [], bs, _, h, _, _, _ => by cases h
theorem putAll_same {bs : List (TypeId × List AV)} {ids : List Nat} {l : List (TypeId × List AV)} (hl : l.length = ids.length) (hn : ids.Nodup) (h : ∀ (i id : Nat), ids[i]? = some id → ∃ b, bs[id]? = some b ∧ l[i]? = some b) : putAll bs ids l = bs := by
  have hb : ∀ k ∈ ids, k < bs.length := fun k hk => by
    obtain ⟨i, hi⟩ := List.getElem?_of_mem hk
    obtain ⟨b, h1, _⟩ := h i k hi
    exact (List.getElem?_eq_some_iff.1 h1).1
  refine List.ext_getElem? fun k => ?_
  by_cases hk : k ∈ ids
  · obtain ⟨i, hi⟩ := List.getElem?_of_mem hk
    obtain ⟨b, h1, h2⟩ := h i k hi
    rw [putAll_this bs ids l i k (by omega) hn hb hi, h1, h2]
  · by_cases hlt : k < bs.length
    · exact putAll_other bs ids l k (by omega) hlt hk
    · rw [List.getElem?_eq_none_iff.2 (by rw [putAll_len _ _ _ (by omega)]; omega), List.getElem?_eq_none_iff.2 (by omega)]
theorem peek_ok {ro : Nat → Option (List Value)} {g : FuncId} {S : PeekS} (hf : ∃ fn, Try.prog.funcs[g]? = some fn ∧ fn.body.isSome = true)
    (h : ∀ args bs r, S.spec args bs = some (r, true) → Fs Try.prog ro g args (hp bs []) fun r' H' => r' = r ∧ ∃ tips more, H' = hp (bs ++ more) tips) :
    ∀ args H r H', peek? S args H = some (r, H') → HSound1 Try.prog ro g args H r H' := by
  intro args H r H' hd
  unfold peek? at hd
  split at hd
  · rename_i ids hpick
    split at hd
    · rename_i hc
      have hn := nodupB_ok hc
      split at hd
      · rename_i bl hbl
        obtain ⟨hl, hg⟩ := pickB_get hbl
        split at hd
        · rename_i hrt
          split at hd
          · rename_i ar har
            split at hd
            · rename_i bs hbs
              obtain ⟨bs, qa⟩ := bs
              split at hd
              · rename_i rb hs
                obtain ⟨ra, q⟩ := rb
                split at hd
                · rename_i hv
                  cases hd
                  refine ⟨⟨fun x => (cdb_iff.1 x).1, rfl, rfl, rfl, Nat.le_refl _, Nat.le_refl _, fun _ _ _ => rfl, fun _ _ _ => rfl⟩, fun hcd G W cargs hI hR hA => ⟨hf, ?_⟩⟩
                  have hq : (q && qa) = true := (cdb_iff.1 hcd).2
                  simp only [Bool.and_eq_true] at hq
                  obtain ⟨rfl, rfl⟩ := hq
                  obtain ⟨r1, r2, _⟩ := mapM_ok hbs
                  have hlen : bl.length = ids.length := hl
                  have hin : ∀ id ∈ ids, ∃ x, H.blks[id]? = some x := fun id hid => by
                    obtain ⟨i, hi⟩ := List.getElem?_of_mem hid
                    obtain ⟨b, hb, _⟩ := hg i id hi
                    exact ⟨b, hb⟩
                  have hIs : Inv (objG ids G) (hp bs []) W := hI.objIn hn (r1.trans hl) (fun i id hi => by
                    obtain ⟨b, hb, hb2⟩ := hg i id hi
                    obtain ⟨cs', k1, k2⟩ := r2 i b hb2
                    exact ⟨b.1, b.2, cs', hb, k1, k2⟩)
                  refine ((h _ _ _ hs) (objG ids G) W cargs hIs (ro_obj hR hI) (mapIs_rel (fun i j b hij hd => objG_to (idxI_some hij) hd) (fun _ _ p => p) hA _ har)).2.mono ?_
                  rintro e W' ⟨c, G1, r', H1, rfl, ⟨rfl, tips, more, rfl⟩, e1, e2, e3⟩
                  obtain ⟨G', x1, x2, x3⟩ := hI.objOut (bl := bl) hn hin e1 e2 (by omega) (fun i x hx => by
                    rw [show bl.length - ids.length = 0 by omega]
                    obtain ⟨cs, k1, k2⟩ := rtM_back (n0 := H.blks.length) hrt hbs i x hx
                    refine ⟨cs, ?_, k2⟩
                    show (bs ++ more)[i]? = _
                    rw [List.getElem?_append_left (List.getElem?_eq_some_iff.1 k1).1]
                    exact k1)
                  rw [putAll_same hlen hn hg] at x2
                  have hm : mapI (bigI H.blks.length ids (bl.length - ids.length)) r' = some r' := by
                    have hv : isV r' = true := hv
                    cases r' with
                    | v u => rfl
                    | _ => cases hv
                  exact ⟨c, G', rfl, x1, x2.same rfl rfl, x3 _ _ _ hm e3⟩
                · cases hd
              · cases hd
            · cases hd
          · cases hd
        · cases hd
      · cases hd
    · cases hd
  · cases hd
end Go.Proofs.Ytdijakobocnceaa.AE
