/-
  What an operation of the abstract run hangs on.
-/
import Derived.Test.YtdijakobocnceaaAEDraw
namespace Go.Proofs.Ytdijakobocnceaa.AE
set_option maxRecDepth 100000
open Go.RowKit
section
variable {P : Program} {ro : Nat → Option (List Value)} {C : Hd} {mu : FuncId → Bool} {H H' H2 : AH} {act act' : List AV} {o : Oper} {r : AV}
theorem gen_congr (h : ∀ x ∈ o.op.operands.toList, ev act x = ev act' x) : gen P act o = gen P act' o := by
  unfold gen
  split
  · rfl
  · rename_i hs
    have e1 : o.op.operands.toList.all (fun x => isV (ev act x)) = o.op.operands.toList.all (fun x => isV (ev act' x)) := by
      rw [Bool.eq_iff_iff, List.all_eq_true, List.all_eq_true]
      exact ⟨fun q x hx => by rw [← h x hx]; exact q x hx, fun q x hx => by rw [h x hx]; exact q x hx⟩
    rw [e1, execOp_congr (ρ' := fun x => vOf (ev act' x)) o (fun cs b e => hs cs b e) (fun x hx => by show vOf _ = vOf _; rw [h x (by simpa using hx)])]
theorem gen'_congr (h : ∀ x ∈ o.op.operands.toList, ev act x = ev act' x) : gen' P act H o = gen' P act' H o := by unfold gen'; rw [gen_congr h]
theorem bnd_congr {d : Int} {x : Option Operand} (h : ∀ y, x = some y → ev act y = ev act' y) : bnd act d x = bnd act' d x := by
  cases x with
  | none => rfl
  | some y => simp only [bnd, h y rfl]
theorem op0_congr (h : ∀ x ∈ o.op.operands.toList, ev act x = ev act' x) : op0 P ro act H o = op0 P ro act' H o := by
  have hg := gen'_congr (P := P) (H := H) h
  unfold op0
  rw [hg]
  cases hop : o.op with
  | slice t x lo hi mx =>
    rw [hop] at h
    simp [Op.operands] at h
    have hx := h.1
    have h1 : ∀ y, lo = some y → ev act y = ev act' y := fun y e => h.2 y (.inl e)
    have h2 : ∀ y, hi = some y → ev act y = ev act' y := fun y e => h.2 y (.inr (.inl e))
    have h3 : ∀ y, mx = some y → ev act y = ev act' y := fun y e => h.2 y (.inr (.inr e))
    simp only [hx]
    have hs : ∀ y, slice P act H t y lo hi mx = slice P act' H t y lo hi mx := fun y => by
      unfold slice
      simp only [bnd_congr h1, bnd_congr h2]
      cases mx with
      | none => rfl
      | some m => simp only [h3 m rfl]
    simp only [hs]
  | makeFunc f p q =>
    rw [hop] at h
    simp [Op.operands] at h
    have e1 : p.toList.map (ev act) = p.toList.map (ev act') := List.map_congr_left fun x hx => h x (.inl (by simpa using hx))
    have e2 : q.toList.map (ev act) = q.toList.map (ev act') := List.map_congr_left fun x hx => h x (.inr (by simpa using hx))
    simp only [e1, e2]
  | call c =>
    rw [hop] at h
    simp only
    cases hc : c.callee with
    | builtin b =>
      cases b with
      | len =>
        simp only
        cases hl : c.args.toList with
        | nil => rfl
        | cons x l =>
          have hx : ev act x = ev act' x := h x (by simp [Op.operands, Call.operands, hc]; rw [← Array.mem_toList_iff, hl]; exact List.mem_cons_self ..)
          cases l with
          | nil => cases c.argTypes.toList with
            | nil => rfl
            | cons t l' => cases l' with
              | nil => simp only [hx]
              | cons _ _ => rfl
          | cons _ _ => rfl
      | _ => rfl
    | _ => rfl
  | _ => first
    | rfl
    | (rw [hop] at h; simp [Op.operands] at h; simp_all; done)
theorem op1_congr (h : ∀ x ∈ o.op.operands.toList, ev act x = ev act' x) : op1 P ro act H o = op1 P ro act' H o := by
  have h0 := op0_congr (P := P) (ro := ro) (H := H) h
  have hx : orElse0 P ro act H o = orElse0 P ro act' H o := by funext x; unfold orElse0; rw [h0]
  unfold op1
  rw [h0, hx]
  cases hop : o.op with
  | build t parts =>
    rw [hop] at h
    have e : parts.toList.map (fun p => (p.1, ev act p.2)) = parts.toList.map (fun p => (p.1, ev act' p.2)) := List.map_congr_left fun p hp => by
      rw [h p.2 (by simp [Op.operands]; exact ⟨p.1, by simpa using hp⟩)]
    simp only [e]
  | buildSlice t n parts =>
    rw [hop] at h
    have e : parts.toList.map (fun p => (p.1, ev act p.2)) = parts.toList.map (fun p => (p.1, ev act' p.2)) := List.map_congr_left fun p hp => by
      rw [h p.2 (by simp [Op.operands]; exact ⟨p.1, by simpa using hp⟩)]
    simp only [e]
  | call c =>
    rw [hop] at h
    simp only
    have hm : ∀ x ∈ c.args.toList, ev act x = ev act' x := fun x hx => h x (by simp [Op.operands, Call.operands]; exact .inr (by simpa using hx))
    cases hc : c.callee with
    | builtin b =>
      cases b with
      | append =>
        cases hl : c.args.toList with
        | nil => rfl
        | cons x l =>
          cases l with
          | nil => rfl
          | cons y l =>
            rw [hl] at hm
            have hx := hm x (by simp)
            have hy := hm y (by simp)
            cases l with
            | cons _ _ => rfl
            | nil => cases c.argTypes.toList with
              | nil => rfl
              | cons t l' => cases l' with
                | nil => rfl
                | cons u l'' => cases l'' with
                  | nil => simp only [hx, hy]
                  | cons _ _ => rfl
      | copy =>
        cases hl : c.args.toList with
        | nil => rfl
        | cons x l =>
          cases l with
          | nil => rfl
          | cons y l =>
            rw [hl] at hm
            have hx := hm x (by simp)
            have hy := hm y (by simp)
            cases l with
            | cons _ _ => rfl
            | nil => cases c.argTypes.toList with
              | nil => rfl
              | cons t l' => cases l' with
                | nil => rfl
                | cons u l'' => cases l'' with
                  | nil => simp only [hx, hy]
                  | cons _ _ => rfl
      | _ => rfl
    | _ => rfl
  | _ => first
    | rfl
    | (rw [hop] at h; simp [Op.operands] at h; simp_all; done)
theorem call_congr (h : ∀ x ∈ o.op.operands.toList, ev act x = ev act' x) : call? act o = call? act' o := by
  unfold call?
  cases hop : o.op with
  | call c =>
    rw [hop] at h
    simp only
    cases hc : c.callee with
    | value f =>
      have hf : ev act f = ev act' f := h f (by simp [Op.operands, Call.operands, hc])
      have ha : c.args.toList.map (ev act) = c.args.toList.map (ev act') := List.map_congr_left fun x hx => h x (by simp [Op.operands, Call.operands]; exact .inr (by simpa using hx))
      simp only [hf, ha]
    | _ => rfl
  | _ => rfl
theorem inv_congr (h : ∀ x ∈ o.op.operands.toList, ev act x = ev act' x) : inv? P act o = inv? P act' o := by
  unfold inv?
  cases hop : o.op with
  | call c =>
    rw [hop] at h
    simp only
    cases hc : c.callee with
    | invoke f name =>
      have hf : ev act f = ev act' f := h f (by simp [Op.operands, Call.operands, hc])
      have ha : c.args.toList.map (ev act) = c.args.toList.map (ev act') := List.map_congr_left fun x hx => h x (by simp [Op.operands, Call.operands]; exact .inr (by simpa using hx))
      simp only [hf, ha]
    | _ => rfl
  | _ => rfl
theorem stepD_congr (h : ∀ x ∈ o.op.operands.toList, ev act x = ev act' x) : stepD P ro C mu act H o = stepD P ro C mu act' H o := by
  unfold stepD op2; rw [call_congr h, inv_congr h, op1_congr h, opX_congr h, opM_congr h, opN_congr h]
/-- The same, with other memory. -/
def AH.bt (b : List (TypeId × List AV)) (t : List Nat) (H : AH) : AH := { H with blks := b, tips := t }
section
variable {b : List (TypeId × List AV)} {t : List Nat}
theorem need_bt {p : Prop} [Decidable p] : need (H.bt b t) p = (need H p).map (AH.bt b t) := by
  unfold need AH.bt
  simp only
  split
  · rfl
  · split <;> rfl
theorem need_free {p : Prop} [Decidable p] {H1 : AH} (h : need H p = some H1) : need (H.bt b t) p = some (H1.bt b t) := by rw [need_bt, h]; rfl
theorem withH_free {x : Option AV} (h : withH H x = some (r, H')) : withH (H.bt b t) x = some (r, H'.bt b t) := by obtain ⟨rfl, rfl⟩ := withH_some h; rfl
theorem gen'_free (h : gen' P act H o = some (r, H')) : gen' P act (H.bt b t) o = some (r, H'.bt b t) := by
  unfold gen' at h ⊢
  split at h
  · cases h; rfl
  · cases h
theorem load_free {ty : TypeId} {x : AV} (h1 : ∀ i f, x ≠ .ptr i f) (h2 : ∀ i f, x ≠ .pi i f) (h : load P ro H ty x = some (r, H')) : load P ro (H.bt b t) ty x = some (r, H'.bt b t) := by
  have hs : (H.bt b t).sy = H.sy := rfl
  have hg : ∀ q p, grant (H.bt b t) q p = (grant H q p).bt b t := fun _ _ => rfl
  unfold load at h ⊢
  cases x with
  | ptr i f => exact absurd rfl (h1 i f)
  | pi i f => exact absurd rfl (h2 i f)
  | _ =>
    simp only [hs, hg]
    repeat' (split at h)
    all_goals first
      | (cases h; done)
      | (cases h; simp_all; done)
theorem indexAddr_free {ty : TypeId} {x : AV} {n : Int} (h : indexAddr P H ty x n = some (r, H')) : indexAddr P (H.bt b t) ty x n = some (r, H'.bt b t) := by
  have hs : (H.bt b t).sy = H.sy := rfl
  have hg : ∀ q p, grant (H.bt b t) q p = (grant H q p).bt b t := fun _ _ => rfl
  unfold indexAddr at h ⊢
  simp only [need_bt, hs, hg]
  repeat' (split at h)
  all_goals first
    | (cases h; done)
    | (cases h; simp_all; done)
theorem cut_free {sz : Nat} {xs : List AV} {l u : Int} {m : Option Int} (h : cut H sz xs l u m = some (r, H')) : cut (H.bt b t) sz xs l u m = some (r, H'.bt b t) := by
  unfold cut at h ⊢
  simp only [need_bt]
  repeat' (split at h)
  all_goals first
    | (cases h; done)
    | (cases h; simp_all; done)
theorem slice_free {ty : TypeId} {x : AV} {lo hi mx : Option Operand} (h : slice P act H ty x lo hi mx = some (r, H')) : slice P act (H.bt b t) ty x lo hi mx = some (r, H'.bt b t) := by
  unfold slice at h ⊢
  simp only [need_bt]
  repeat' (split at h)
  all_goals first
    | (cases h; done)
    | (cases h; simp_all; done)
    | (have := cut_free (b := b) (t := t) h; simp_all; done)
theorem buildS_free {E : EI} {len : Nat} {parts : List (Nat × AV)} (h : buildS E H len parts = some (r, H')) : buildS E (H.bt b t) len parts = some (r, H'.bt b t) := by
  unfold buildS at h ⊢
  split at h
  · rename_i c1
    rw [if_pos c1]; cases h; rfl
  · rename_i c1
    rw [if_neg c1]
    split at h
    · rename_i c2
      rw [if_pos c2]
      split at h
      · rename_i cells e1
        try rw [e1]
        try dsimp only
        split at h
        · rename_i c3
          rw [if_pos c3]
          split at h
          · rename_i cs e2
            try rw [e2]
            try dsimp only
            split at h
            · rename_i c4
              rw [if_pos c4]; cases h; rfl
            · cases h
          · cases h
        · cases h
      · cases h
    · cases h
theorem slot_free1 (hs : slotOnly act o = true) (h : op1 P ro act H o = some (r, H')) : op1 P ro act (H.bt b t) o = some (r, H'.bt b t) := by
  have g : gen' P act H o = some (r, H') → gen' P act (H.bt b t) o = some (r, H'.bt b t) := gen'_free
  unfold slotOnly at hs
  cases hop : o.op with
  | buildSlice ty len parts =>
    unfold op1 at h ⊢
    rw [hop] at h ⊢
    simp only at h ⊢
    split at h
    · exact buildS_free h
    · cases h
  | load ty a =>
    rw [hop] at hs
    simp only at hs
    unfold op1 at h ⊢
    rw [hop] at h ⊢
    simp only at h ⊢
    unfold op0 at h ⊢
    rw [hop] at h ⊢
    simp only at h ⊢
    exact load_free (fun i f e => by rw [e] at hs; cases hs) (fun i f e => by rw [e] at hs; cases hs) h
  | convert src dst x =>
    rw [hop] at hs
    simp only at hs
    unfold op1 at h ⊢
    rw [hop] at h ⊢
    simp only at h ⊢
    unfold orElse0 at h ⊢
    rw [isNum_conv hs] at h ⊢
    simp only at h ⊢
    unfold op0 at h ⊢
    rw [hop] at h ⊢
    exact g h
  | call c =>
    rw [hop] at hs
    simp only at hs
    unfold op1 at h ⊢
    rw [hop] at h ⊢
    simp only at h ⊢
    split at hs
    · rename_i hc
      rw [hc] at h ⊢
      simp only at h ⊢
      unfold op0 at h ⊢
      rw [hop] at h ⊢
      simp only [hc] at h ⊢
      split at h
      · split at h
        · split at h
          · rename_i hv; rw [if_pos hv]; exact g h
          · rename_i hv
            rw [if_neg hv]
            split at h
            · rename_i hq; rw [if_pos hq]; cases h; rfl
            · cases h
        · exact g h
      · cases h
    · rename_i hc
      rw [hc] at h ⊢
      simp only at h ⊢
      unfold op0 at h ⊢
      rw [hop] at h ⊢
      simp only [hc] at h ⊢
      exact g h
    · rename_i hc
      rw [hc] at h ⊢
      simp only at h ⊢
      unfold op0 at h ⊢
      rw [hop] at h ⊢
      simp only [hc] at h ⊢
      exact g h
    · cases hs
  | field ty x f =>
    unfold op1 at h ⊢
    rw [hop] at h ⊢
    simp only at h ⊢
    split at h
    · rename_i hv
      rw [if_pos hv]
      unfold op0 at h ⊢
      rw [hop] at h ⊢
      exact g h
    · rename_i hv
      rw [if_neg hv]
      exact withH_free h
  | build ty parts =>
    unfold op1 at h ⊢
    rw [hop] at h ⊢
    exact withH_free h
  | slice ty x lo hi mx =>
    unfold op1 at h ⊢
    rw [hop] at h ⊢
    simp only at h ⊢
    unfold op0 at h ⊢
    rw [hop] at h ⊢
    simp only at h ⊢
    split at h
    · exact g h
    · rename_i hne
      exact slice_free h
  | indexAddr ty x i =>
    unfold op1 at h ⊢
    rw [hop] at h ⊢
    simp only at h ⊢
    unfold op0 at h ⊢
    rw [hop] at h ⊢
    simp only at h ⊢
    split at h
    · exact indexAddr_free h
    · cases h
  | _ =>
    rw [hop] at hs
    first
      | (cases hs; done)
      | (unfold op1 at h ⊢
         rw [hop] at h ⊢
         simp only at h ⊢
         unfold op0 at h ⊢
         rw [hop] at h ⊢
         simp only [need_bt] at h ⊢
         first
           | exact g h
           | exact withH_free h
           | (cases h; rfl)
           | (repeat' (split at h)
              all_goals first
                | (cases h; done)
                | exact g h
                | exact withH_free h
                | (cases h; rfl)
                | (cases h; simp_all; done)
                | (simp_all; done)))
theorem slot_still (hs : slotOnly act o = true) : (∀ c, o.op = .call c → c.callee ≠ .builtin .clear) := by
  intro c hop hc
  unfold slotOnly at hs
  rw [hop] at hs
  simp only [hc] at hs
  cases hs
theorem opX_free (hs : slotOnly act o = true) (q : Option (AV × AH)) (h : opX P act H o = q) : opX P act (H.bt b t) o = q.map fun x => (x.1, x.2.bt b t) := by
  subst h
  unfold opX
  cases hop : o.op with
  | binOp op ty x y yt =>
    simp only
    cases op <;> simp only <;> first | rfl | (split <;> rfl)
  | call c =>
    have hn := slot_still hs c hop
    simp only
    try rfl
  | _ => rfl
theorem opM_free (hs : slotOnly act o = true) (q : Option (AV × AH)) (h : opM P act H o = q) : opM P act (H.bt b t) o = q.map fun x => (x.1, x.2.bt b t) := by
  subst h
  unfold opM
  cases hop : o.op with
  | binOp op ty x y yt =>
    simp only
    repeat' split
    all_goals first
      | rfl
      | (simp_all; done)
  | call c =>
    rw [slotOnly, hop] at hs
    simp only at hs ⊢
    cases hc : c.callee with
    | builtin bi =>
      rw [hc] at hs
      cases bi with
      | len =>
        simp only at hs ⊢
        cases hl : c.args.toList with
        | nil => rfl
        | cons x l =>
          cases l with
          | cons _ _ => rfl
          | nil =>
            rw [hl] at hs
            simp only [List.any_cons, List.any_nil, Bool.or_false] at hs
            cases c.argTypes.toList with
            | nil => rfl
            | cons t l' => cases l' with
              | cons _ _ => rfl
              | nil =>
                simp only
                cases hx : ev act x <;> first | rfl | (rw [hx] at hs; cases hs)
      | min => rfl
      | max => rfl
      | _ => cases hs
    | _ => rfl
  | lookup _ _ _ _ => rw [slotOnly, hop] at hs; cases hs
  | mapUpdate _ _ _ _ => rw [slotOnly, hop] at hs; cases hs
  | insert _ _ _ _ => rw [slotOnly, hop] at hs; cases hs
  | makeMap _ _ => rw [slotOnly, hop] at hs; cases hs
  | _ => rfl
theorem opN_free (X : AH) : opN P act (X.bt b t) o = (opN P act X o).map fun x => (x.1, x.2.bt b t) := by
  unfold opN
  cases o.op with
  | binOp bo ty x y yt =>
    simp only
    cases isNilC (ev act y) with
    | false => rfl
    | true => cases isPtr? P ty with
      | false => rfl
      | true => cases bo <;> rfl
  | _ => rfl
theorem slot_free (hs : slotOnly act o = true) (h : op2 P ro act H o = some (r, H')) : op2 P ro act (H.bt b t) o = some (r, H'.bt b t) := by
  unfold op2 at h ⊢
  split at h
  · rename_i q hq
    cases h
    rw [opN_free, hq]; rfl
  · rename_i hq
    rw [opN_free, hq]
    simp only [Option.map_none]
    split at h
    · rename_i q hq
      cases h
      rw [opM_free hs _ hq]; rfl
    · rename_i hq
      rw [opM_free hs _ hq]
      simp only [Option.map_none]
      split at h
      · rename_i q hq
        cases h
        rw [opX_free hs _ hq]; rfl
      · rename_i hq
        rw [opX_free hs _ hq]
        exact slot_free1 hs h
end
end
end Go.Proofs.Ytdijakobocnceaa.AE
