/-
  Iterators: code that calls yield, beside a caller whose state is told by J.
-/
import Derived.Test.YthememoflnocnaaAERnd
namespace Go.Proofs.Ythememoflnocnaa.AE
set_option maxRecDepth 100000
open Go.RowKit
/-- J tells the caller: what has come so far, and whether it is over. -/
structure JOk (P : Program) (ro : Nat → Option (List Value)) (l : Nat) (B : Nat → Prop) (ys : List (List Value)) (J : List (List Value) → Bool → Gh → World → Prop) : Prop where
  step : ∀ {pre st G1 W G1' W' H1}, Inv G1 H1 W → J pre st G1 W → Ext G1 W G1' W' → (∀ b, B b → W'.heap[b]? = W.heap[b]?) → J pre st G1' W'
  ro : ∀ {pre st G1 W}, J pre st G1 W → Ro ro G1 W
  yld : ∀ {pre y G1 H1 W} n, Inv G1 H1 W → J pre false G1 W → (pre ++ [y]) <+: ys → YieldAt (Fr none) n P l y.toArray W fun e W' => ∃ b : Bool, e = .returned (.bool b) ∧ J (pre ++ [y]) (!b) G1 W' ∧ W.heap.size ≤ W'.heap.size ∧ OwnAs G1 W W' ∧ CellsAs G1 W W'
abbrev QY := Exit → List AV → AH → List (List Value) → Bool → Prop
def TrY (P : Program) (ro : Nat → Option (List Value)) (l k : Nat) (ys : List (List Value)) (c : Code) (act : List AV) (H : AH) (pre : List (List Value)) (st : Bool) (Q : QY) : Prop :=
  ∀ B J, JOk P ro l B ys J → ∀ G W (a : Act), Inv G H W → RVs G W act a.tmps.toList → J pre st G W → (∀ b, B b → ∃ id, id < k ∧ G.δ id = some b) →
    c.wp P (fun e a' W' => ∃ act' H' G' pre' st', Q e act' H' pre' st' ∧ J pre' st' G' W' ∧ (∀ i b, G.δ i = some b → G'.δ i = some b) ∧ Inv G' H' W' ∧ RVs G' W' act' a'.tmps.toList ∧ a'.defers = a.defers) a W
theorem rigs_as {k : Nat} {G G' : Gh} {H H' : AH} {W W' : World} {B : Nat → Prop} (i1 : Inv G H W) (i2 : Inv G' H' W') (hd : ∀ i b, G.δ i = some b → G'.δ i = some b) (hr : (H.blks.take k).all rigB = true) (ht : H'.blks.take k = H.blks.take k) (hB : ∀ b, B b → ∃ id, id < k ∧ G.δ id = some b) : ∀ b, B b → W'.heap[b]? = W.heap[b]? := by
  intro b hb
  obtain ⟨id, hk, hdb⟩ := hB b hb
  have hl := i1.δlen id b hdb
  have hx : H.blks[id]? = some H.blks[id] := List.getElem?_eq_getElem hl
  have hx2 : (H.blks.take k)[id]? = some H.blks[id] := by rw [List.getElem?_take, if_pos hk, hx]
  have hx' : H'.blks[id]? = some H.blks[id] := by
    have : (H'.blks.take k)[id]? = some H.blks[id] := by rw [ht]; exact hx2
    rwa [List.getElem?_take, if_pos hk] at this
  rw [List.all_eq_true] at hr
  exact rig_block i1 i2 hd hx hx' (hr _ (List.mem_of_getElem? hx2)) hdb
section
variable {P : Program} {ro : Nat → Option (List Value)} {l k : Nat} {ys : List (List Value)} {act : List AV} {H : AH} {pre : List (List Value)} {st : Bool} {Q R : QY}
theorem TrY.mono {c : Code} (h : TrY P ro l k ys c act H pre st Q) (hq : ∀ e a h p s, Q e a h p s → R e a h p s) : TrY P ro l k ys c act H pre st R :=
  fun B J hJ G W a hI hA hj hB => wp_mono (h B J hJ G W a hI hA hj hB) fun _ _ _ ⟨act', H', G', p, s, q, r⟩ => ⟨act', H', G', p, s, hq _ _ _ _ _ q, r⟩
theorem TrY.of_tr {c : Code} (hr : (H.blks.take k).all rigB = true) (h : Tr P ro c act H fun e a h => h.blks.take k = H.blks.take k ∧ Q e a h pre st) : TrY P ro l k ys c act H pre st Q := by
  intro B J hJ G W a hI hA hj hB
  refine wp_mono (h G W a hI (hJ.ro hj) hA) ?_
  rintro e a' W' ⟨act', H', G', ⟨ht, q⟩, E, I', A', d⟩
  exact ⟨act', H', G', pre, st, q, hJ.step hI hj E (rigs_as hI I' E.δ hr ht hB), E.δ, I', A', d⟩
def nxY (N : List AV → AH → List (List Value) → Bool → Prop) (Q : QY) : QY := fun e a h p s => match e with
  | .normal => N a h p s
  | e => Q e a h p s
def TrYl (P : Program) (ro : Nat → Option (List Value)) (l k : Nat) (ys : List (List Value)) : List Code → List AV → AH → List (List Value) → Bool → QY → Prop
  | [], act, H, pre, st, Q => Q .normal act H pre st
  | x :: m, act, H, pre, st, Q => TrY P ro l k ys x act H pre st (nxY (fun a h p s => TrYl P ro l k ys m a h p s Q) Q)
theorem TrY.seq {x y : Code} (h : TrY P ro l k ys x act H pre st (nxY (fun a h p s => TrY P ro l k ys y a h p s Q) Q)) : TrY P ro l k ys (.seq x y) act H pre st Q := by
  intro B J hJ G W a hI hA hj hB
  refine wp_seq (wp_mono (h B J hJ G W a hI hA hj hB) ?_)
  rintro e a1 W1 ⟨act1, H1, G1, p1, s1, q, j1, e1, i1, r1, d1⟩
  cases e with
  | normal =>
    refine wp_mono (q B J hJ G1 W1 a1 i1 r1 j1 (fun b hb => ?_)) ?_
    · obtain ⟨id, x, y⟩ := hB b hb
      exact ⟨id, x, e1 _ _ y⟩
    rintro e a2 W2 ⟨act2, H2, G2, p2, s2, q2, j2, e2, i2, r2, d2⟩
    exact ⟨act2, H2, G2, p2, s2, q2, j2, fun i b h => e2 _ _ (e1 _ _ h), i2, r2, d2.trans d1⟩
  | _ => exact ⟨act1, H1, G1, p1, s1, q, j1, e1, i1, r1, d1⟩
theorem TrYl.append_inv {m2 : List Code} : ∀ {m : List Code} {act : List AV} {H : AH} {pre : List (List Value)} {st : Bool}, TrYl P ro l k ys (m ++ m2) act H pre st Q → TrYl P ro l k ys m act H pre st (nxY (fun a h p s => TrYl P ro l k ys m2 a h p s Q) Q)
  | [], _, _, _, _, h => h
  | x :: m, _, _, _, _, h => TrY.mono h fun e a h p s q => by cases e <;> first | exact TrYl.append_inv q | exact q
theorem TrY.of_flat : ∀ {c : Code} {act : List AV} {H : AH} {pre : List (List Value)} {st : Bool} {Q : QY}, TrYl P ro l k ys (flatten c) act H pre st Q → TrY P ro l k ys c act H pre st Q := by
  intro c
  induction c with
  | seq x y ihx ihy =>
    intro act H pre st Q h
    have h1 := ihx (TrYl.append_inv (show TrYl P ro l k ys (flatten x ++ flatten y) act H pre st Q from h))
    exact TrY.seq (TrY.mono h1 fun e a h p s q => by cases e <;> first | exact ihy q | exact q)
  | _ =>
    intro act H pre st Q h
    exact TrY.mono h fun e a h p s q => by cases e <;> exact q
def leaveY (id : Nat) (Q : QY) : QY := fun e a h p s => match e with
  | .exit i => if i = id then Q .normal a h p s else Q (.exit i) a h p s
  | e => Q e a h p s
theorem TrY.block {id : Nat} {c : Code} (h : TrY P ro l k ys c act H pre st (leaveY id Q)) : TrY P ro l k ys (.block id c) act H pre st Q := by
  intro B J hJ G W a hI hA hj hB
  refine wp_block (wp_mono (h B J hJ G W a hI hA hj hB) ?_)
  rintro e a1 W1 ⟨act1, H1, G1, p1, s1, q, r⟩
  cases e with
  | exit i =>
    unfold leaveY at q
    simp only [Exit.inBlock] at q ⊢
    split at q
    · rename_i hi; rw [if_pos hi]; exact ⟨act1, H1, G1, p1, s1, q, r⟩
    · rename_i hi; rw [if_neg hi]; exact ⟨act1, H1, G1, p1, s1, q, r⟩
  | _ => exact ⟨act1, H1, G1, p1, s1, q, r⟩
theorem TrY.cond {c : Operand} {x y : Code} {b : Bool} (hc : ev act c = .v (.bool b)) (h1 : b = true → TrY P ro l k ys x act H pre st Q) (h2 : b = false → TrY P ro l k ys y act H pre st Q) : TrY P ro l k ys (.cond c x y) act H pre st Q := by
  intro B J hJ G W a hI hA hj hB
  have hr := ev_rel hA c
  rw [hc] at hr
  have hcv : a.eval c = .bool b := by
    generalize a.eval c = u at hr
    cases hr; rfl
  cases b with
  | true => exact wp_cond hcv (h1 rfl B J hJ G W a hI hA hj hB)
  | false => exact wp_cond hcv (h2 rfl B J hJ G W a hI hA hj hB)
theorem TrY.loop {c : Code} (I : Nat → List AV → AH → List (List Value) → Bool → Prop) (h : ∀ m act H pre st, I m act H pre st → TrY P ro l k ys c act H pre st fun e a h p s => match e with
    | .normal => ∃ m', m' < m ∧ I m' a h p s
    | e => Q e a h p s) {m : Nat} (h0 : I m act H pre st) : TrY P ro l k ys (.loop c) act H pre st Q := by
  intro B J hJ G W a hI hA hj hB b kk cs
  have key : ∀ m act H G (a : Act) W pre st, I m act H pre st → Inv G H W → RVs G W act a.tmps.toList → J pre st G W → (∀ b, B b → ∃ id, id < k ∧ G.δ id = some b) →
      ∃ e a' w', (∃ act' H' G' p' s', Q e act' H' p' s' ∧ J p' s' G' w' ∧ (∀ i b, G.δ i = some b → G'.δ i = some b) ∧ Inv G' H' w' ∧ RVs G' w' act' a'.tmps.toList ∧ a'.defers = a.defers) ∧ Arrives P (lone (b.at a (.code c :: .inLoop c :: kk)) cs W) b kk cs e a' w' := by
    intro m
    induction m using Nat.strongRecOn with
    | _ m ih =>
      intro act H G a W pre st hi hI hA hj hB
      obtain ⟨e, a₁, w₁, hq, harr⟩ := h m act H pre st hi B J hJ G W a hI hA hj hB b (.inLoop c :: kk) cs
      obtain ⟨act1, H1, G1, p1, s1, q, j1, e1, i1, r1, d1⟩ := hq
      cases e with
      | normal =>
        obtain ⟨m', hm, hi'⟩ := q
        obtain ⟨e₂, a₂, w₂, ⟨act2, H2, G2, p2, s2, q2, j2, e2, i2, r2, d2⟩, harr₂⟩ := ih m' hm act1 H1 G1 a₁ w₁ p1 s1 hi' i1 r1 j1 (fun b hb => by
          obtain ⟨id, x, y⟩ := hB b hb
          exact ⟨id, x, e1 _ _ y⟩)
        exact ⟨e₂, a₂, w₂, ⟨act2, H2, G2, p2, s2, q2, j2, fun i b h => e2 _ _ (e1 _ _ h), i2, r2, d2.trans d1⟩, .of_steps (Steps.trans harr (.one step_inLoop)) harr₂⟩
      | exit id => exact ⟨_, a₁, w₁, ⟨act1, H1, G1, p1, s1, q, j1, e1, i1, r1, d1⟩, .pass (x := .inLoop c) rfl (fun _ _ => .inl (by simp)) harr⟩
      | goto l => exact ⟨_, a₁, w₁, ⟨act1, H1, G1, p1, s1, q, j1, e1, i1, r1, d1⟩, .pass (x := .inLoop c) rfl (fun _ _ => .inl (by simp)) harr⟩
      | ret => exact ⟨_, a₁, w₁, ⟨act1, H1, G1, p1, s1, q, j1, e1, i1, r1, d1⟩, .pass (x := .inLoop c) rfl (fun _ _ => .inl (by simp)) harr⟩
      | panic ch => exact ⟨_, a₁, w₁, ⟨act1, H1, G1, p1, s1, q, j1, e1, i1, r1, d1⟩, .pass (x := .inLoop c) rfl (fun _ _ => .inl (by simp)) harr⟩
      | outgrown => exact ⟨_, a₁, w₁, ⟨act1, H1, G1, p1, s1, q, j1, e1, i1, r1, d1⟩, .pass (x := .inLoop c) rfl (fun _ _ => .inl (by simp)) harr⟩
  obtain ⟨e, a', w', hq, harr⟩ := key m act H G a W pre st h0 hI hA hj hB
  exact ⟨e, a', w', hq, .of_steps (.one step_loop) harr⟩
/-! A region with a call of yield. -/
def TrO (P : Program) (ro : Nat → Option (List Value)) (os : Array Oper) (m : List Oper) (act : List AV) (H : AH) (Q : List AV → AH → Prop) : Prop :=
  ∀ n G W (a : Act), Inv G H W → Ro ro G W → RVs G W act a.tmps.toList → ∀ (m2 : List Oper) (QF : Exit → Act → World → Prop),
    (∀ act' H' G' (a' : Act) W', Q act' H' → Ext G W G' W' → Inv G' H' W' → RVs G' W' act' a'.tmps.toList → a'.defers = a.defers → wpListIn (Fr none) n P os QF m2 a' W') → wpListIn (Fr none) n P os QF (m ++ m2) a W
def onN (Q : List AV → AH → Prop) : Exit → List AV → AH → Prop := fun e a h => match e with
  | .normal => Q a h
  | _ => False
noncomputable abbrev codeO {α : Type} (ro : Nat → Option (List Value)) (mu : FuncId → Bool) (pr : FuncId → Option (List AV → AH → Ans)) (d : Nat) (os : Array Oper) (m : List Oper) (act : List AV) (H : AH) (K : Kt α) : Option α := opsK Try.prog ro (fnK Try.prog ro mu pr d) os m act H K
theorem TrO.of_code {mu : FuncId → Bool} {pr : FuncId → Option (List AV → AH → Ans)} {d : Nat} {os : Array Oper} {m : List Oper} {Q : List AV → AH → Prop} (hp : Known ro pr) (hnd : m.all noDef = true) {is : List Nat} {X : Option Prop} (e : codeO ro mu pr d os m act H (kp is (onN Q)) = X) (h : holds X) (hm : Flats mu pr := by intro g h; cases h) : TrO Try.prog ro os m act H Q := by
  intro n G W a hI hR hA m2 QF hQF
  cases X with
  | none => exact h.elim
  | some p =>
    have hpp : p := h
    have e : ops Try.prog ro (run ro mu pr d) os m act H (kp is (onN Q)) = some p := (opsK_eq (fnK_like pr d) os m act H _).symm.trans e
    have hk : ∀ e (act : List AV) (H : AH), kp is (onN Q) e act H = some p → H.cd ∧ onN Q e (keepI 0 is act) (tidy H) := fun e act H hk => by
      have : (H.cd ∧ onN Q e (keepI 0 is act) (tidy H)) = p := by simpa [kp] using hk
      rw [← this] at hpp
      exact hpp
    refine ops_soundF (G0 := G) (W0 := W) (H0 := H) (ds := a.defers) named (run_sound' hp hm d) (K := kp is (onN Q)) (ans := p) (fun e act H h => (hk e act H h).1) (fun act' H' G' a' W' h _ e1 i1 r1 d1 => ?_) (fun v act' H' G' a' W' h _ _ _ _ _ => (hk _ _ _ h).2.elim) m act H G a W hnd e (.refl _) (.refl _ _) hI hR hA rfl
    exact hQF _ _ G' a' W' (hk _ _ _ h).2 e1 (inv_tidy i1) (keepI_rel _ _ r1) d1
def yop (o : Oper) : Option (Operand × List Operand × Option Tmp) := match o.op with
  | .call c => match c.callee with
    | .value f => some (f, c.args.toList, o.dst)
    | _ => none
  | _ => none
theorem yield_run {W : World} {a : Act} {o : Oper} {f : Operand} {args : List Operand} {dst : Option Tmp} {fn : FuncId} {tmps : Array Value} {assign body : Code} (hy : yop o = some (f, args, dst)) (hf : a.eval f = .func (.yield l) #[] #[]) (hr : (Instr.yield l (args.map a.eval).toArray).run P W = .ok (.round l fn tmps assign body) W) :
    dst = o.dst ∧ (execOp a.eval o).run P W = .ok (.round l fn tmps assign body) W := by
  unfold yop at hy
  split at hy
  · rename_i c hop
    split at hy
    · rename_i f' hcal
      simp only [Option.some.injEq, Prod.mk.injEq] at hy
      obtain ⟨rfl, rfl, rfl⟩ := hy
      refine ⟨rfl, ?_⟩
      have hargs : (c.args.toList.map a.eval).toArray = c.args.map a.eval := by apply Array.ext'; rw [Array.toList_map]
      rw [hargs] at hr
      rw [execOp, hop]
      simp [resolve, hcal, hf, Deferred.ofValue, invoke, hr]
    · cases hy
  · cases hy
theorem TrY.yield {id : Nat} {os : Array Oper} (i : Nat) {o : Oper} (ho : os.toList[i]? = some o) {f : Operand} {args : List Operand} {dst : Option Tmp} (hy : yop o = some (f, args, dst)) (hr : (H.blks.take k).all rigB = true)
    (h : TrO P ro os (os.toList.take i) act H fun a1 h1 => h1.blks.take k = H.blks.take k ∧
      ((∃ d w, (gd os a1 o = .yes ∨ gd os a1 o = .test d w w) ∧ ev a1 f = .v (.func (.yield l) #[] #[]) ∧ ∃ y, args.map (ev a1) = y.map .v ∧ (pre ++ [y]) <+: ys ∧ ∀ b : Bool, TrO P ro os (os.toList.drop (i + 1)) (put a1 dst (.v (.bool b))) h1 fun a2 h2 => h2.blks.take k = H.blks.take k ∧ Q .normal a2 h2 (pre ++ [y]) (!b)) ∨
       (∃ d w, (gd os a1 o = .no ∨ gd os a1 o = .test d w (!w)) ∧ TrO P ro os (os.toList.drop (i + 1)) (put a1 dst (.v undef)) h1 fun a2 h2 => h2.blks.take k = H.blks.take k ∧ Q .normal a2 h2 pre false))) :
    TrY P ro l k ys (.region id os false) act H pre false Q := by
  intro B J hJ G W a hI hA hj hB
  refine (wpIn_wide (n := 0)).1 (wpIn_region_list ?_)
  obtain ⟨hlt, hget⟩ := List.getElem?_eq_some_iff.1 ho
  have hsplit : os.toList = os.toList.take i ++ o :: os.toList.drop (i + 1) := by
    have h1 : os.toList.drop i = o :: os.toList.drop (i + 1) := by rw [List.drop_eq_getElem_cons hlt, hget]
    rw [← h1, List.take_append_drop]
  show wpListIn (Fr none) 0 P os _ os.toList a W
  generalize hQF : (fun (e : Exit) (a' : Act) (W' : World) => ∃ act' H' G' pre' st', Q e act' H' pre' st' ∧ J pre' st' G' W' ∧ (∀ i b, G.δ i = some b → G'.δ i = some b) ∧ Inv G' H' W' ∧ RVs G' W' act' a'.tmps.toList ∧ a'.defers = a.defers) = QF
  have key := h 0 G W a hI (hJ.ro hj) hA (o :: os.toList.drop (i + 1)) QF
  rw [← hsplit] at key
  refine key ?_
  rintro act1 H1 G1 a1 W1 ⟨ht, hcase⟩ E1 I1 A1 d1
  have hj1 := hJ.step hI hj E1 (rigs_as hI I1 E1.δ hr ht hB)
  have hr1 : (H1.blks.take k).all rigB = true := by rw [ht]; exact hr
  have hB1 : ∀ b, B b → ∃ id, id < k ∧ G1.δ id = some b := fun b hb => by
    obtain ⟨id, x, y⟩ := hB b hb
    exact ⟨id, x, E1.δ _ _ y⟩
  have hgd := gd_sound (o := o) (all := os) A1
  have hdst : dst = o.dst := by
    unfold yop at hy
    split at hy
    · split at hy
      · simp only [Option.some.injEq, Prod.mk.injEq] at hy; exact hy.2.2.symm
      · cases hy
    · cases hy
  rcases hcase with ⟨d, w, hg, hev, y, hys, hpre, hcont⟩ | ⟨d, w, hg, hcont⟩
  · have hw : Region.wanted o (yielded os a1.tmps) = true := by
      rcases hg with hg | hg
      · rw [hg] at hgd; exact hgd
      · rw [hg] at hgd; rw [hgd.1]; cases w <;> rfl
    unfold wpListIn
    rw [if_pos hw]
    obtain ⟨fn, tmps, assign, body, hyr, hrd⟩ := hJ.yld (0 - 1) I1 hj1 hpre
    have hargs : (args.map a1.eval).toArray = y.toArray := by
      have h1 := evs_rel A1 args
      rw [hys] at h1
      have : ∀ {us cs : List Value}, RVs G1 W1 (us.map AV.v) cs → cs = us := fun h => vals_rel h (by
        rename_i us cs
        clear h
        induction us with
        | nil => rfl
        | cons u us ih => simp only [List.map_cons, vals?, AV.val?, ih])
      rw [this h1]
    have hev1 : a1.eval f = .func (.yield l) #[] #[] := by
      have h1 := ev_rel A1 f
      rw [hev] at h1
      generalize a1.eval f = u at h1
      cases h1; rfl
    rw [← hargs] at hyr
    have hrun := (yield_run hy hev1 hyr).2
    have hnd : ∀ c, o.op ≠ .defer c := fun c e => by unfold yop at hy; rw [e] at hy; cases hy
    refine ⟨fun _ _ => trivial, ?_⟩
    rw [Oper.semAt_eq _ _ _ hnd, hrun, Oper.uponIn_round]
    refine ⟨fun h => (by cases h), hrd.mono ?_⟩
    rintro e W2 ⟨b, rfl, hj2, hs, hoo, hcc⟩
    have key2 := hcont b 0 G1 W2 (a1.put o.dst (.bool b)) (I1.par hs hoo hcc) (hJ.ro hj2) (by rw [hdst]; exact put_rel (A1.par hcc) o.dst (.v _)) [] QF
    rw [List.append_nil] at key2
    refine key2 ?_
    rintro act3 H3 G3 a3 W3 ⟨ht3, q⟩ E3 I3 A3 d3
    show QF .normal a3 W3
    rw [← hQF]
    exact ⟨act3, H3, G3, _, _, q, hJ.step (I1.par hs hoo hcc) hj2 E3 (rigs_as (I1.par hs hoo hcc) I3 E3.δ hr1 (ht3.trans ht.symm) hB1), fun i b h => E3.δ _ _ (E1.δ _ _ h), I3, A3, by rw [d3, put_defers, d1]⟩
  · have hw : Region.wanted o (yielded os a1.tmps) = false := by
      rcases hg with hg | hg
      · rw [hg] at hgd; exact hgd
      · rw [hg] at hgd; rw [hgd.1]; cases w <;> rfl
    unfold wpListIn
    rw [if_neg (by rw [hw]; simp)]
    refine ⟨fun _ _ => trivial, ?_⟩
    have key2 := hcont 0 G1 W1 (a1.put o.dst undef) I1 (hJ.ro hj1) (by rw [hdst]; exact put_rel A1 o.dst (.v _)) [] QF
    rw [List.append_nil] at key2
    refine key2 ?_
    rintro act3 H3 G3 a3 W3 ⟨ht3, q⟩ E3 I3 A3 d3
    show QF .normal a3 W3
    rw [← hQF]
    exact ⟨act3, H3, G3, _, _, q, hJ.step I1 hj1 E3 (rigs_as I1 I3 E3.δ hr1 (ht3.trans ht.symm) hB1), fun i b h => E3.δ _ _ (E1.δ _ _ h), I3, A3, by rw [d3, put_defers, d1]⟩
end
/-- An iterator's contract: it hands over ys, one after the other, or a part of it. -/
def ItOk (P : Program) (ro : Nat → Option (List Value)) (gf : FuncId) (cap : List AV) (H : AH) (k : Nat) (ys : List (List Value)) : Prop :=
  ∀ l B J, JOk P ro l B ys J → ∀ G W (cargs : Array Value), Inv G H W → RVs G W (.v (.func (.yield l) #[] #[]) :: cap) cargs.toList → J [] false G W → (∀ b, B b → ∃ id, id < k ∧ G.δ id = some b) →
    (∃ fn, P.funcs[gf]? = some fn ∧ fn.body.isSome = true) ∧ Calls P gf cargs W fun e W' => (∃ v, e = .returned v) ∧ ∃ G' pre st, J pre st G' W' ∧ (st = true ∨ pre = ys)
theorem ItOk.of_body {ro : Nat → Option (List Value)} {gf : FuncId} {cap : List AV} {H : AH} {k : Nat} {ys : List (List Value)} (hf : ∃ fn, Try.prog.funcs[gf]? = some fn ∧ fn.body.isSome = true) (hres : resultsOf gf = [])
    (h : ∀ l, TrY Try.prog ro l k ys (bodyOf gf) ((.v (.func (.yield l) #[] #[]) :: cap) ++ List.replicate (slotsOf gf - (cap.length + 1)) (.v undef)) H [] false fun e _ _ p s => (e = .normal ∨ e = .ret) ∧ (s = true ∨ p = ys)) : ItOk Try.prog ro gf cap H k ys := by
  intro l B J hJ G W cargs hI hA hj hB
  refine ⟨hf, ?_⟩
  obtain ⟨fn, hfn, hb⟩ := hf
  cases hc : fn.body with
  | none => rw [hc] at hb; cases hb
  | some c =>
    have e1 : bodyOf gf = c := by unfold bodyOf; rw [hfn]; simp only [hc]; rfl
    have e2 : slotsOf gf = fn.ntmps := by unfold slotsOf; rw [hfn]
    have e3 : fn.results.toList = [] := by have : resultsOf gf = fn.results.toList := by unfold resultsOf; rw [hfn]
                                           rw [← this]; exact hres
    have hlen : cargs.size = cap.length + 1 := by have := hA.len; simpa using this.symm
    have h := h l
    rw [e1, e2] at h
    refine calls_of_wp hfn hc (wp_mono (h B J hJ G W { tmps := cargs ++ Array.replicate (fn.ntmps - cargs.size) undef, defers := [] } hI ?_ hj hB) ?_)
    · simp only [Array.toList_append, Array.toList_replicate]
      refine hA.app ?_
      rw [← hlen]
      generalize fn.ntmps - cargs.size = n
      induction n with
      | zero => exact .nil
      | succ n ih => exact .cons (.v _) ih
    · rintro e a W' ⟨act, H2, G', p, s, ⟨he, hs⟩, j2, _, i2, r2, d2⟩
      have hres2 : ∃ v, (results fn a.tmps).run Try.prog W' = .ok v W' := ⟨_, results_none (by apply Array.ext'; simpa using e3) _ _ _⟩
      obtain ⟨v, hv⟩ := hres2
      rcases he with rfl | rfl
      · exact ⟨d2, v, hv, ⟨v, rfl⟩, G', p, s, j2, hs⟩
      · exact ⟨d2, v, hv, ⟨v, rfl⟩, G', p, s, j2, hs⟩
end Go.Proofs.Ythememoflnocnaa.AE
