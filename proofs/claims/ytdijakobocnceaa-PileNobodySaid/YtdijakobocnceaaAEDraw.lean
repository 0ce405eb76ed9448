/-
  A region that draws its order: what is done in the order of its text is done in any.
-/
import Derived.Test.YtdijakobocnceaaAEClean
namespace Go.Proofs.Ytdijakobocnceaa.AE
set_option maxRecDepth 100000
open Go.RowKit
def edgeSet (acc : List Nat) (o : Oper) : Nat := o.after.toList.foldl (fun s e => if Region.binds .any e then s ||| (1 <<< e.on) ||| acc.getD e.on 0 else s) 0
/-- What must come ahead of each operation. -/
def bsets : List Oper → List Nat → List Nat
  | [], acc => acc
  | o :: l, acc => bsets l (acc ++ [edgeSet acc o])
/-- The operation turns nothing, and reads nothing that others turn. -/
def isMp (x : AV) : Bool := match x with
  | .mp _ => true
  | _ => false
def isNum (x : AV) : Bool := match x with
  | .v (.int _ _) => true
  | _ => false
theorem isNum_conv {P : Program} {H : AH} {src dst : TypeId} {x : AV} (h : isNum x = true) : convertA P H src dst x = none := by
  unfold isNum at h
  split at h
  · rfl
  · cases h
def slotOnly (act : List AV) (o : Oper) : Bool := match o.op with
  | .move _ | .assign _ | .pick _ _ _ | .nilCheck _ | .fieldAddr _ _ _ | .indexAddr _ _ _ | .slice _ _ _ _ _ | .extract _ _ | .binOp _ _ _ _ _ | .makeFunc _ _ _ | .build _ _ | .buildSlice _ _ _ | .field _ _ _ | .unOp _ _ _ | .index _ _ _ => true
  | .load _ a => match ev act a with
    | .ptr _ _ => false
    | .pi _ _ => false
    | _ => true
  | .convert _ _ x => isNum (ev act x)
  | .call c => match c.callee with
    | .builtin .len => !(c.args.toList.any fun x => isMp (ev act x))
    | .builtin .min => true
    | .builtin .max => true
    | _ => false
  | _ => false
/-- The operation only reads. -/
def still (act : List AV) (o : Oper) : Bool := match o.op with
  | .move _ | .assign _ | .pick _ _ _ | .nilCheck _ | .fieldAddr _ _ _ | .indexAddr _ _ _ | .slice _ _ _ _ _ | .extract _ _ | .binOp _ _ _ _ _ | .makeFunc _ _ _ | .build _ _ | .buildSlice _ _ _ | .field _ _ _ | .load _ _ | .unOp _ _ _ | .index _ _ _ | .lookup _ _ _ _ => true
  | .convert _ _ x => isNum (ev act x)
  | .call c => match c.callee with
    | .builtin .len => true
    | .builtin .min => true
    | .builtin .max => true
    | _ => false
  | _ => false
def stepD (P : Program) (ro : Nat → Option (List Value)) (C : Hd) (mu : FuncId → Bool) (act : List AV) (H : AH) (o : Oper) : Ans := match call? act o with
  | some ga => if mu ga.1 then ret? (C ga.1 ga.2 H) else match ret? (C ga.1 ga.2 { H with mb := H.blks.length, mc := H.tips.length }) with
    | some rh => match clean rh.1 with
      | some r => some (r, { H with orc := rh.2.orc, cd := rh.2.cd })
      | none => none
    | none => none
  | none => match op2 P ro act H o with
    | some rh => some rh
    | none => match inv? P act o with
      | some ga => ret? (C ga.1 ga.2 H)
      | none => none
theorem inv_still {P : Program} {act : List AV} {o : Oper} (hs : still act o = true) : inv? P act o = none := by
  unfold inv?
  split
  · rename_i c hop
    split
    · rename_i recv name hcal
      simp only [still, hop, hcal] at hs
      cases hs
    · rfl
  · rfl
theorem stepD_op {P : Program} {ro : Nat → Option (List Value)} {C : Hd} {mu : FuncId → Bool} {act : List AV} {H : AH} {o : Oper} {x : Option (AV × AH)} (hc : call? act o = none) (hi : inv? P act o = none) (h : stepD P ro C mu act H o = x) : op2 P ro act H o = x := by
  unfold stepD at h
  rw [hc] at h
  simp only [hi] at h
  split at h
  · rename_i rh hr; rw [hr]; exact h
  · rename_i hr; rw [hr]; exact h
theorem stepD_to {P : Program} {ro : Nat → Option (List Value)} {C : Hd} {mu : FuncId → Bool} {act : List AV} {H : AH} {o : Oper} {x : AV × AH} (hc : call? act o = none) (h : op2 P ro act H o = some x) : stepD P ro C mu act H o = some x := by
  unfold stepD
  rw [hc]
  simp only [h]
def turns (mu : FuncId → Bool) (act : List AV) (o : Oper) : Bool := match call? act o with
  | some ga => mu ga.1
  | none => !still act o
structure Ent where
  act : List AV
  H : AH
  r : AV
  T : Bool
  H' : AH
/-- The operations in the order of their text; what each comes to is written down. -/
def runD {α : Type} (P : Program) (ro : Nat → Option (List Value)) (C : Hd) (mu : FuncId → Bool) (os : Array Oper) : List Oper → List AV → AH → List Ent → (List AV → AH → List Ent → Option α) → Option α
  | [], act, H, acc, K => K act H acc
  | o :: rest, act, H, acc, K => match gd os act o with
    | .yes => match stepD P ro C mu act H o with
      | some rh => runD P ro C mu os rest (put act o.dst rh.1) rh.2 (acc ++ [⟨act, H, rh.1, turns mu act o, rh.2⟩]) K
      | none => none
    | .no => runD P ro C mu os rest (put act o.dst (.v undef)) H (acc ++ [⟨act, H, .v undef, false, H⟩]) K
    | .bad => none
    | .test d want b => match conc H b with
      | some gH => match gH.1 with
        | true => match want with
          | true => match stepD P ro C mu (act.set d (.v (.bool true))) gH.2 o with
            | some rh => runD P ro C mu os rest (put (act.set d (.v (.bool true))) o.dst rh.1) rh.2 (acc ++ [⟨act.set d (.v (.bool true)), gH.2, rh.1, turns mu (act.set d (.v (.bool true))) o, rh.2⟩]) K
            | none => none
          | false => runD P ro C mu os rest (put (act.set d (.v (.bool true))) o.dst (.v undef)) gH.2 (acc ++ [⟨act.set d (.v (.bool true)), gH.2, .v undef, false, gH.2⟩]) K
        | false => match want with
          | false => match stepD P ro C mu (act.set d (.v (.bool false))) gH.2 o with
            | some rh => runD P ro C mu os rest (put (act.set d (.v (.bool false))) o.dst rh.1) rh.2 (acc ++ [⟨act.set d (.v (.bool false)), gH.2, rh.1, turns mu (act.set d (.v (.bool false))) o, rh.2⟩]) K
            | none => none
          | true => runD P ro C mu os rest (put (act.set d (.v (.bool false))) o.dst (.v undef)) gH.2 (acc ++ [⟨act.set d (.v (.bool false)), gH.2, .v undef, false, gH.2⟩]) K
      | none => none
/-- What can be seen of the region alone: edges go back; each slot is written once; what is looked at comes ahead, or is written behind, in any order. -/
def stat (os : List Oper) (B : List Nat) (all : Array Oper) : Bool :=
  os.zipIdx.all fun (o, i) => (o.after.toList.all fun e => !Region.binds .any e || decide (e.on < i)) &&
    os.zipIdx.all fun (p, j) => match p.dst with
      | some d => (i == j || !(o.dst == some d)) && (!(o.looksAt all).contains d || ((decide (j < i) && (B.getD i 0).testBit j) || (decide (i < j) && (B.getD j 0).testBit i)))
      | none => true
def cnt (tb : List Ent) (i : Nat) : Nat := (tb.take i).countP (·.T)
/-- May as many turns as k have come when operation i comes? -/
def may (B : List Nat) (tb : List Ent) (i k : Nat) : Bool :=
  tb.zipIdx.all fun (e, t) => !e.T || ((!(B.getD i 0).testBit t || decide (cnt tb t < k)) && (!((B.getD t 0).testBit i || t == i) || decide (k ≤ cnt tb t)))
/-- A call of a function of data alone, as mu tells by a number far off. -/
def flat (mu : FuncId → Bool) (act : List AV) (o : Oper) : Bool := match call? act o with
  | some ga => mu (ga.1 + 1000000) && !mu ga.1
  | none => false
def Flat (C : Hd) (mu : FuncId → Bool) : Prop := ∀ g, mu (g + 1000000) = true → ∀ args H r h, C g args H = some (.ret r, h) → ∀ b t mb mc, C g args ⟨b, t, mb, mc, H.sy, H.orc, H.cd⟩ = some (.ret r, ⟨b, t, mb, mc, h.sy, h.orc, h.cd⟩)
/-- A load from a block that was there ahead of all that may come meanwhile, which only makes blocks. -/
def allocOp (o : Oper) : Bool := match o.op with
  | .alloc _ => true
  | _ => false
def pid? (x : AV) : Option Nat := match x with
  | .ptr id _ => some id
  | .pi id _ => some id
  | _ => none
/-- A load need not be looked at: what comes at another time is no turn, or comes not between, or makes a block alone. -/
def ldC (os : List Oper) (B : List Nat) (tb : List Ent) (i k id : Nat) (e : Ent) (t : Nat) : Bool := !e.T || !may B tb i k || decide (cnt tb t < min k (cnt tb i)) || decide (max k (cnt tb i) ≤ cnt tb t) || (decide (id < e.H.blks.length) && (match os[t]? with
  | some p => allocOp p
  | none => false))
/-- What must hold of what came meanwhile, for a load that may come at another time: the block is as it was. Each with what tells that it need not be looked at. -/
def ldQ (os : List Oper) (B : List Nat) (tb : List Ent) (i k : Nat) (act : List AV) (o : Oper) : List (Bool × Prop) := match o.op with
  | .load _ a => match pid? (ev act a) with
    | some id => tb.zipIdx.map fun (e, t) => (ldC os B tb i k id e t, e.H.blks[id]? = e.H'.blks[id]?)
    | none => []
  | _ => []
def chkP (os : List Oper) (B : List Nat) (tb : List Ent) : List (Bool × Prop) :=
  os.zipIdx.flatMap fun (o, i) => match tb[i]? with
    | some e => (List.range (tb.countP (·.T) + 1)).flatMap fun k => ldQ os B tb i k e.act o
    | none => []
def cdL (c : Prop) : List (Bool × Prop) → Prop
  | [] => c
  | (b, p) :: l => cdL (cds c b p) l
theorem cdL_out : ∀ {l : List (Bool × Prop)} {c : Prop}, cdL c l → c ∧ ∀ x ∈ l, x.1 = true ∨ x.2
  | [], _, h => ⟨h, fun x hx => by cases hx⟩
  | (b, p) :: l, c, h => by
    obtain ⟨h1, h2⟩ := cdL_out (l := l) h
    cases b with
    | true => exact ⟨h1, fun x hx => by
        rcases List.mem_cons.1 hx with rfl | hx
        · exact .inl rfl
        · exact h2 x hx⟩
    | false => exact ⟨h1.1, fun x hx => by
        rcases List.mem_cons.1 hx with rfl | hx
        · exact .inr h1.2
        · exact h2 x hx⟩
def ldB (act : List AV) (o : Oper) : Bool := match o.op with
  | .load _ a => match pid? (ev act a) with
    | some _ => true
    | none => false
  | _ => false
def wantA (all : Array Oper) (act : List AV) (o : Oper) : Bool := match gd all act o with
  | .yes => true
  | .no => false
  | .bad => false
  | .test _ w b => b == w
/-- A call that turns nothing, and is none of data alone. -/
def againB (mu : FuncId → Bool) (e : Ent) (o : Oper) : Bool := !e.T && (call? e.act o).isSome && !turns mu e.act o && !flat mu e.act o
def heapK (H0 : AH) (tb : List Ent) (k : Nat) : Option (List (TypeId × List AV) × List Nat) := ((H0.blks, H0.tips) :: (tb.filter (·.T)).map fun e => (e.H'.blks, e.H'.tips))[k]?
/-- Such a call answers the same when k turns have come. -/
def againP (S : List AV → AH → Oper → (AV → AH → Option Prop) → Option Prop) (H0 : AH) (tb : List Ent) (k : Nat) (e : Ent) (o : Oper) : Prop := match heapK H0 tb k with
  | some bt => (match S e.act { e.H with blks := bt.1, tips := bt.2 } o fun r h => some (r = e.r ∧ h.cd) with
    | some p => p
    | none => False)
  | none => False
/-- What must hold of such calls: at another time they answer the same. -/
def chkC (S : List AV → AH → Oper → (AV → AH → Option Prop) → Option Prop) (mu : FuncId → Bool) (os : Array Oper) (B : List Nat) (H0 : AH) (tb : List Ent) : List (Bool × Prop) :=
  os.toList.zipIdx.flatMap fun (o, i) => match tb[i]? with
    | some e => match againB mu e o with
      | true => (List.range (tb.countP (·.T) + 1)).map fun k => (!may B tb i k || (k == cnt tb i) || !wantA os e.act o, againP S H0 tb k e o)
      | false => []
    | none => []
def chk (mu : FuncId → Bool) (os : List Oper) (B : List Nat) (tb : List Ent) : Bool :=
  os.zipIdx.all fun (o, i) => match tb[i]? with
    | some e => (List.range (tb.countP (·.T) + 1)).all fun k => !may B tb i k || (k == cnt tb i) || (!e.T && slotOnly e.act o && (call? e.act o).isNone) || (!e.T && flat mu e.act o) || (!e.T && (call? e.act o).isNone && ldB e.act o) || againB mu e o
    | none => false
def dr (P : Program) (ro : Nat → Option (List Value)) (mu : FuncId → Bool) (C : Hd) : Dr := fun os act H K =>
  if stat os.toList (bsets os.toList []) os then
    runD P ro C mu os os.toList act H [] fun act' H' tb => if chk mu os.toList (bsets os.toList []) tb then K act' { H' with cd := cdL (cdL H'.cd (chkP os.toList (bsets os.toList []) tb)) (chkC (fun act H o K => match stepD P ro C mu act H o with
      | some rh => K rh.1 rh.2
      | none => none) mu os (bsets os.toList []) H tb) } else none
  else none
section
variable {P : Program} {ro : Nat → Option (List Value)} {C : Hd} {mu : FuncId → Bool} {G : Gh} {H H' : AH} {W : World} {act : List AV} {a : Act} {o : Oper} {r : AV}
theorem Inv.marks (h : Inv G H W) (mb mc : Nat) : Inv G { H with mb := mb, mc := mc } W :=
  Inv.mk h.blk h.inj h.δown h.δpr h.δlen h.tip h.tlen h.row h.trow h.tδ h.tt h.plt h.olt
theorem retq_some {x : Ans2} {r : AV} {H' : AH} (h : ret? x = some (r, H')) : x = some (.ret r, H') := by
  unfold ret? at h
  split at h
  · rename_i rh
    obtain ⟨rr, h'⟩ := rh
    cases rr with
    | ret r' => cases h; rfl
    | pan v => cases h
  · cases h
theorem stepD_keep (hC : ∀ g args H r H', C g args H = some (r, H') → Keep H H') {rh : AV × AH} (h : stepD P ro C mu act H o = some rh) : Keep H rh.2 := by
  unfold stepD at h
  split at h
  · split at h
    · exact hC _ _ _ (.ret rh.1) rh.2 (retq_some h)
    · split at h
      · rename_i rh' hrh
        split at h
        · cases h
          have k := hC _ _ _ (.ret rh'.1) rh'.2 (retq_some hrh)
          exact Same.keep ⟨rfl, rfl, rfl, rfl, rfl⟩ k.cd
        · cases h
      · cases h
  · split at h
    · rename_i rh' hr
      cases h
      exact op2_keep (r := rh.1) hr
    · split at h
      · exact hC _ _ _ (.ret rh.1) rh.2 (retq_some h)
      · cases h
theorem stepD_sound (hN : Named P) (hC : HSound P ro C) (hI : Inv G H W) (hR : Ro ro G W) (hA : RVs G W act a.tmps.toList) (h : stepD P ro C mu act H o = some (r, H')) (hcd : H'.cd) {next : Act → World → Prop} {Q : Exit → Act → World → Prop}
    (hK : ∀ G' W' c, Ext G W G' W' → Inv G' H' W' → RV G' W' r c → next (a.put o.dst c) W') : o.wp P a W next Q := by
  unfold stepD at h
  split at h
  · rename_i ga hc
    split at h
    · exact step_sound (ro := ro) (rr := .ret r) hN hC hI hR hA (by unfold step; rw [hc]; exact retq_some h) hcd (fun r' hr' => by cases hr'; exact hK) (fun v hv => by cases hv)
    · split at h
      · rename_i rh hrh
        split at h
        · rename_i r' hcl
          cases h
          obtain ⟨g, args⟩ := ga
          obtain ⟨r0, H0⟩ := rh
          have hs := (hC g args _ (.ret r0) H0 (retq_some hrh)).one
          obtain ⟨cargs, h1, h2⟩ := call_run (W := W) hN hA hc
          replace h2 := h2 (hs.2 hcd G W cargs (hI.marks _ _) hR h1).1
          unfold Oper.wp
          rw [h2]
          refine Calls.mono (hs.2 hcd G W cargs (hI.marks _ _) hR h1).2 ?_
          rintro e W' ⟨c, G', rfl, e1, e2, e3⟩
          obtain ⟨f1, f2⟩ := restore hI e1 e2 hs.1
          exact hK _ W' c f1 (f2.same rfl rfl) (clean_rel e3 _ hcl)
        · cases h
      · cases h
  · rename_i hc
    refine step_sound (ro := ro) (C := C) (rr := .ret r) hN hC hI hR hA ?_ hcd (fun r' hr' => by cases hr'; exact hK) (fun v hv => by cases hv)
    unfold step
    rw [hc]
    split at h
    · rename_i rh hr
      cases h
      simp only [hr]
    · rename_i hr
      simp only [hr]
      split at h
      · rename_i ga hi
        simp only [hi]
        exact retq_some h
      · cases h
theorem need_same {p : Prop} [Decidable p] (h : need H p = some H') : Same H H' := (need_some h).1
theorem load_same {t : TypeId} {x : AV} (h : load P ro H t x = some (r, H')) : Same H H' := by
  unfold load at h
  repeat' (split at h)
  all_goals first
    | (cases h; done)
    | (cases h; exact .refl _)
    | (cases h; exact ⟨rfl, rfl, rfl, rfl, rfl⟩)
theorem indexAddr_same {t : TypeId} {x : AV} {n : Int} (h : indexAddr P H t x n = some (r, H')) : Same H H' := by
  unfold indexAddr at h
  repeat' (split at h)
  all_goals first
    | (cases h; done)
    | (cases h; exact .refl _)
    | (cases h; exact ⟨rfl, rfl, rfl, rfl, rfl⟩)
    | (cases h; exact need_same (by assumption))
theorem slice_same {t : TypeId} {x : AV} {lo hi mx : Option Operand} (h : slice P act H t x lo hi mx = some (r, H')) : Same H H' := by
  unfold slice at h
  repeat' (split at h)
  all_goals first
    | (cases h; done)
    | (cases h; exact .refl _)
    | (cases h; exact need_same (by assumption))
    | (unfold cut at h; dsimp only at h; split at h <;> first | (cases h; done) | (cases h; exact need_same (by assumption)))
theorem op0_still (hs : still act o = true) (h : op0 P ro act H o = some (r, H')) : Same H H' := by
  unfold still at hs
  unfold op0 at h
  have g : gen' P act H o = some (r, H') → Same H H' := fun h => by
    unfold gen' at h
    split at h
    · cases h; exact .refl _
    · cases h
  have w : ∀ x, withH H x = some (r, H') → Same H H' := fun x h => by rw [(withH_some h).2]; exact .refl _
  repeat' (split at h)
  all_goals first
    | (cases h; done)
    | exact g h
    | exact w _ h
    | exact load_same h
    | exact indexAddr_same h
    | exact slice_same h
    | (cases h; exact .refl _)
    | (cases h; exact need_same (by assumption))
    | (exfalso; simp_all; done)
theorem op1_still (hs : still act o = true) (h : op1 P ro act H o = some (r, H')) : Same H H' := by
  have h0 : op0 P ro act H o = some (r, H') → Same H H' := op0_still hs
  have w : ∀ x, withH H x = some (r, H') → Same H H' := fun x h => by rw [(withH_some h).2]; exact .refl _
  unfold op1 at h
  split at h
  · exact w _ h
  · split at h
    · unfold buildS at h
      repeat' (split at h)
      all_goals first | (cases h; done) | (cases h; exact .refl _)
    · cases h
  · rename_i hop; simp only [still, hop] at hs; cases hs
  · split at h
    · exact h0 h
    · exact w _ h
  · rename_i hop
    simp only [still, hop] at hs
    unfold orElse0 at h
    rw [isNum_conv hs] at h
    exact h0 h
  · rename_i c hop
    simp only [still, hop] at hs
    split at h
    · rename_i hcal; rw [hcal] at hs; cases hs
    · rename_i hcal; rw [hcal] at hs; cases hs
    · exact h0 h
  · exact h0 h
theorem opX_still (hs : still act o = true) (h : opX P act H o = some (r, H')) : H' = H := by
  unfold opX at h
  split at h
  · split at h
    · split at h <;> first | (cases h; rfl) | cases h
    · split at h <;> first | (cases h; rfl) | cases h
    · cases h
  · rename_i c hop
    simp only [still, hop] at hs
    split at h
    · rename_i hcal; rw [hcal] at hs; cases hs
    · cases h
  · cases h
theorem opM_still (hs : still act o = true) (h : opM P act H o = some (r, H')) : Same H H' := by
  unfold opM at h
  split at h
  · rename_i hop; simp only [still, hop] at hs; cases hs
  · repeat' (split at h)
    all_goals first
      | (cases h; done)
      | (cases h; exact ⟨rfl, rfl, rfl, rfl, rfl⟩)
  · rename_i hop; simp only [still, hop] at hs; cases hs
  · rename_i hop; simp only [still, hop] at hs; cases hs
  · repeat' (split at h)
    all_goals first
      | (cases h; done)
      | (cases h; exact .refl _)
  · rename_i c hop
    simp only [still, hop] at hs
    split at h
    · repeat' (split at h)
      all_goals first
        | (cases h; done)
        | (cases h; exact .refl _)
    · rename_i hcal; rw [hcal] at hs; cases hs
    · rename_i hcal; rw [hcal] at hs; cases hs
    · cases h
  · cases h
theorem op2_still (hs : still act o = true) (h : op2 P ro act H o = some (r, H')) : Same H H' := by
  unfold op2 at h
  split at h
  · rename_i q hq; cases h
    obtain ⟨b, t, x, y, yt, _, _, _, rfl, _⟩ := opN_some hq
    exact ⟨rfl, rfl, rfl, rfl, rfl⟩
  · split at h
    · rename_i q hq; cases h; exact opM_still hs hq
    · split at h
      · rename_i q hq; cases h; rw [opX_still hs hq]; exact .refl _
      · exact op1_still hs h
theorem stepD_still {rh : AV × AH} (hs : turns mu act o = false) (h : stepD P ro C mu act H o = some rh) : Same H rh.2 := by
  unfold turns at hs
  unfold stepD at h
  split at h
  · rename_i ga hc
    rw [hc] at hs
    simp only at hs
    rw [if_neg (by rw [hs]; simp)] at h
    split at h
    · split at h
      · cases h; exact ⟨rfl, rfl, rfl, rfl, rfl⟩
      · cases h
    · cases h
  · rename_i hc
    rw [hc] at hs
    have hs : still act o = true := by simpa using hs
    simp only [inv_still hs] at h
    split at h
    · rename_i rh' hr
      cases h
      exact op2_still (r := rh.1) hs hr
    · cases h
end
end Go.Proofs.Ytdijakobocnceaa.AE
