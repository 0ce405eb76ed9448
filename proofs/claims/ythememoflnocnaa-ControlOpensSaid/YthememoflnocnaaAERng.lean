/-
  A range over a function: the caller's side.
-/
import Derived.Test.YthememoflnocnaaAEItS
import Derived.RangeFuncLeaves
namespace Go.Proofs.Ythememoflnocnaa.AE
set_option maxRecDepth 100000
open Go.RowKit
theorem put_own {G : Gh} {W : World} {l : Nat} {o : Obj} (h : ¬ G.own l) : OwnAs G W (W.putObj l o) := fun b hb => World.putObj_heap_other (fun e => h (e ▸ hb))
theorem put_cells {G : Gh} {W : World} {l : Nat} {r r' : Loop} (h : W.heap[l]? = some (.loop r)) : CellsAs G W (W.putObj l (.loop r')) := fun b o _ => by
  by_cases e : b = l
  · subst e
    have h2 : (W.putObj b (.loop r')).heap[b]? = some (.loop r') := World.putObj_heap_same (Array.getElem?_eq_some_iff.1 h).1
    simp only [World.cell?, h, h2]
  · exact cell_heap (World.putObj_heap_other e)
theorem put_cellsD {G : Gh} {W : World} {l : Nat} {r r' : Option (List Deferred)} (h : W.heap[l]? = some (.deferred r)) : CellsAs G W (W.putObj l (.deferred r')) := fun b o _ => by
  by_cases e : b = l
  · subst e
    have h2 : (W.putObj b (.deferred r')).heap[b]? = some (.deferred r') := World.putObj_heap_same (Array.getElem?_eq_some_iff.1 h).1
    simp only [World.cell?, h, h2]
  · exact cell_heap (World.putObj_heap_other e)
theorem ext_same {G G' : Gh} {W W1 W2 : World} (e : Ext G W G' W1) (h1 : W2.os = W1.os) (h2 : W2.tape = W1.tape) (h3 : W2.output = W1.output) (hs : W1.heap.size ≤ W2.heap.size) (hb : ∀ b, b < W.heap.size → W2.heap[b]? = W1.heap[b]?) (hp : ∀ b o, G.prot b o → b < W.heap.size) : Ext G W G' W2 where
  os := h1.trans e.os
  tape := h2.trans e.tape
  output := h3.trans e.output
  size := Nat.le_trans e.size hs
  δ := e.δ
  tip := e.tip
  prot := e.prot
  cell := fun b o p => (cell_heap (hb b (hp b o p))).trans (e.cell b o p)
  own := e.own
  new := e.new
  block := fun b h ho => (hb b h).trans (e.block b h ho)
  pnew := e.pnew
def setps : List AV → List Tmp → List Value → List AV
  | act, p :: ps, v :: vs => setps (act.set p (.v v)) ps vs
  | act, _, _ => act
theorem setps_rel {G : Gh} {W : World} : ∀ (ps : List Tmp) (vs : List Value) (act : List AV) (tm : Array Value), RVs G W act tm.toList → RVs G W (setps act ps vs) ((ps.zip vs).foldl (fun t x => t.setIfInBounds x.1 x.2) tm).toList
  | [], _, _, _, h => by simpa [setps] using h
  | p :: ps, [], _, _, h => by simpa [setps] using h
  | p :: ps, v :: vs, act, tm, h => by
    rw [List.zip_cons_cons, List.foldl_cons]
    refine setps_rel ps vs _ _ ?_
    rw [Array.toList_setIfInBounds]
    exact h.set p (.v _)
/-- What a round comes to: R tells the memory between two rounds (none), or behind the one that has left by a jump. -/
abbrev RR := Option Code → List (List Value) → AH → Prop
def rndQ (R : RR) (pre : List (List Value)) : Exit → List AV → AH → Prop := fun e _ h => match e with
  | .normal => R none pre h
  | .ret => R (some .ret) pre h
  | .exit i => R (some (.exit i)) pre h
  | .goto t => R (some (.goto t)) pre h
  | _ => False
def jumpQ (Q : Exit → List AV → AH → Prop) (c : Code) (act : List AV) (h : AH) : Prop := match c with
  | .ret => Q .ret act h
  | .exit i => Q (.exit i) act h
  | .goto t => Q (.goto t) act h
  | _ => False
def recOf (fn : FuncId) (tm : Array Value) (ps : Array Tmp) (assign body : Code) (D : Nat) (pe : Option Code) : Loop := { state := if pe.isNone then .ready else .done, pending := pe, fn, tmps := tm, params := ps, assign, body, defers := D }
structure CallJ (G0 : Gh) (W0 : World) (B : Nat → Prop) (l D : Nat) (rc : Option Code → Loop) (R : RR) (pre : List (List Value)) (st : Bool) (G1 : Gh) (W : World) : Prop where
  ex : ∃ pe G2 H2, st = pe.isSome ∧ R pe pre H2 ∧ Ext G0 W0 G2 W ∧ Inv G2 H2 W ∧ Par B G1 G2 ∧ W.heap[l]? = some (.loop (rc pe)) ∧ ¬ G2.own l ∧ ¬ G2.own D
  dfr : W.heap[D]? = some (.deferred (some []))
  nol : ¬ G1.own l
  noD : ¬ G1.own D
  old : ∀ b, G1.own b → b < W0.heap.size → B b
  prot : ∀ b o, G0.prot b o → G1.prot b o
section
variable {P : Program} {ro : Nat → Option (List Value)}
def fixd (ids : List Nat) (H h : AH) : Prop := ids.map (fun i => h.blks[i]?) = ids.map (fun i => H.blks[i]?)
theorem fixd_at {ids : List Nat} {H h : AH} (hf : fixd ids H h) {id : Nat} (hid : id ∈ ids) : h.blks[id]? = H.blks[id]? := by
  unfold fixd at hf
  exact List.map_inj_left.1 hf id hid
theorem callJ_ok {G0 : Gh} {W0 : World} {H0 : AH} {B : Nat → Prop} {l D : Nat} {fn : FuncId} {a0 : Act} {act0 : List AV} {ps : Array Tmp} {assign body : Code} {R : RR} {ys : List (List Value)} {ids : List Nat}
    (hI0 : Inv G0 H0 W0) (hR0 : Ro ro G0 W0) (hA0 : RVs G0 W0 act0 a0.tmps.toList)
    (hBi : ∀ b, B b → ∃ id, id ∈ ids ∧ G0.δ id = some b) (hrig : ∀ id, id ∈ ids → ∃ x, H0.blks[id]? = some x ∧ rigB x = true) (hfix : ∀ pe pre h, R pe pre h → fixd ids H0 h)
    (hD : W0.heap.size ≤ D) (hl : W0.heap.size ≤ l)
    (hround : ∀ pre y H2, R none pre H2 → (pre ++ [y]) <+: ys → y.length = ps.size ∧ TrR P ro l assign (setps act0 ps.toList y) H2 fun e a h => e = .normal ∧ fixd ids H0 h ∧ TrR P ro l body a h (rndQ R (pre ++ [y]))) :
    JOk P ro l B ys (CallJ G0 W0 B l D (recOf fn a0.tmps ps assign body D) R) := by
  have hBo : ∀ b, B b → G0.own b := fun b hb => by obtain ⟨id, _, h⟩ := hBi b hb; exact hI0.δown id b h
  have hBs : ∀ {G G' : Gh} {H H' : AH} {W W' : World}, Inv G H W → Inv G' H' W' → (∀ i b, G0.δ i = some b → G.δ i = some b) → (∀ i b, G.δ i = some b → G'.δ i = some b) → fixd ids H0 H → fixd ids H0 H' → ∀ b, B b → W'.heap[b]? = W.heap[b]? := by
    intro G G' H H' W W' i1 i2 h0 hd f1 f2 b hb
    obtain ⟨id, hid, hδ⟩ := hBi b hb
    obtain ⟨x, hx, hr⟩ := hrig id hid
    exact rig_block i1 i2 hd (by rw [fixd_at f1 hid]; exact hx) (by rw [fixd_at f2 hid]; exact hx) hr (h0 _ _ hδ)
  refine ⟨?_, ?_, ?_⟩
  · intro pre st G1 W G1' W' H1 i1 hj e hB
    obtain ⟨⟨pe, G2, H2, hst, hr, e2, i2, hp, hrec, nl, nD⟩, hdf, n1, n2, hold, hpr⟩ := hj
    obtain ⟨k1, k2, k3⟩ := hp.step i1 i2 e hB
    have hlt : l < W.heap.size := (Array.getElem?_eq_some_iff.1 hrec).1
    have hDt : D < W.heap.size := (Array.getElem?_eq_some_iff.1 hdf).1
    refine ⟨⟨pe, G2, H2, hst, hr, ext_same e2 e.os e.tape e.output e.size (fun b hb => ?_) hI0.plt, i2.par e.size k1 k2, k3, (e.block l hlt n1).trans hrec, nl, nD⟩, (e.block D hDt n2).trans hdf, fun h => n1 (e.new l hlt h), fun h => n2 (e.new D hDt h), fun b hb hlt2 => hold b (e.new b (Nat.lt_of_lt_of_le hlt2 e2.size) hb) hlt2, fun b o p => e.prot b o (hpr b o p)⟩
    by_cases ho : G1.own b
    · exact hB b (hold b ho hb)
    · exact e.block b (Nat.lt_of_lt_of_le hb e2.size) ho
  · intro pre st G1 W hj
    obtain ⟨⟨pe, G2, H2, hst, hr, e2, i2, hp, hrec, nl, nD⟩, hdf, n1, n2, hold, hpr⟩ := hj
    intro b cs he
    obtain ⟨h1, h2, t, h3⟩ := hR0 b cs he
    obtain ⟨g1, g2, t', g3⟩ := (hR0.ext e2) b cs he
    refine ⟨fun j u hu => ⟨hpr _ _ (h1 j u hu).1, (g1 j u hu).2⟩, fun ho => h2 (hBo b (hold b ho ?_)), t', g3⟩
    exact (Array.getElem?_eq_some_iff.1 h3).1
  · intro pre y G1 H1 W n i1 hj hpre
    obtain ⟨⟨pe, G2, H2, hst, hr, e2, i2, hp, hrec, nl, nD⟩, hdf, n1, n2, hold, hpr⟩ := hj
    cases pe with
    | some c => cases hst
    | none =>
    obtain ⟨hy, hasg⟩ := hround pre y H2 hr hpre
    have hyr := run_yield (P := P) (args := y.toArray) hrec (by show y.toArray.size = ps.size; simpa using hy)
    refine ⟨fn, _, assign, body, hyr, roundIn_of_wpIn (F := Fr none) trivial ?_⟩
    clear hyr
    have hlt : l < W.heap.size := (Array.getElem?_eq_some_iff.1 hrec).1
    have hDt : D < W.heap.size := (Array.getElem?_eq_some_iff.1 hdf).1
    have hlD : D ≠ l := by rintro rfl; rw [hrec] at hdf; cases hdf
    have htm : RVs G2 W (setps act0 ps.toList y) (((ps.zip y.toArray).foldl (fun tmps x => tmps.setIfInBounds x.1 x.2) a0.tmps)).toList := by
      have := setps_rel (G := G2) (W := W) ps.toList y act0 a0.tmps (hA0.ext e2)
      rw [← Array.foldl_toList, Array.toList_zip]
      exact this
    refine wpIn_mono (hasg n G2 W { tmps := _, defers := [] } i2 (hR0.ext e2) htm) ?_
    rintro e a1 W1 ⟨act1, H3, G3, ⟨rfl, hfx, hbody⟩, E1, I3, A3, _⟩
    obtain ⟨p1, p2, p3⟩ := hp.symm.step i2 i1 E1 (hBs i2 I3 e2.δ E1.δ (hfix _ _ _ hr) hfx)
    have i1' := i1.par E1.size p1 p2
    have nl3 : ¬ G3.own l := fun h => nl (E1.new l hlt h)
    have nD3 : ¬ G3.own D := fun h => nD (E1.new D hDt h)
    have hrec1 : W1.heap[l]? = some (.loop (recOf fn a0.tmps ps assign body D none)) := (E1.block l hlt nl).trans hrec
    have hdf1 : W1.heap[D]? = some (.deferred (some [])) := (E1.block D hDt nD).trans hdf
    have e3 := e2.trans E1
    refine ⟨_, run_beginRound hrec1 rfl, ?_⟩
    generalize hr2 : ({ recOf fn a0.tmps ps assign body D none with state := LoopState.busy } : Loop) = r2
    have hlt1 : l < W1.heap.size := (Array.getElem?_eq_some_iff.1 hrec1).1
    have hrec2 : (W1.putObj l (.loop r2)).heap[l]? = some (.loop r2) := World.putObj_heap_same hlt1
    have hdf2 : (W1.putObj l (.loop r2)).heap[D]? = some (.deferred (some [])) := (World.putObj_heap_other hlD).trans hdf1
    have hsz2 : (W1.putObj l (.loop r2)).heap.size = W1.heap.size := World.putObj_size
    have c3 : CellsAs G3 W1 (W1.putObj l (.loop r2)) := put_cells hrec1
    have c1 : CellsAs G1 W1 (W1.putObj l (.loop r2)) := put_cells hrec1
    have o3 : OwnAs G3 W1 (W1.putObj l (.loop r2)) := put_own nl3
    have o1 : OwnAs G1 W1 (W1.putObj l (.loop r2)) := put_own n1
    have I3' := I3.par (Nat.le_of_eq hsz2.symm) o3 c3
    have i1'' := i1'.par (Nat.le_of_eq hsz2.symm) o1 c1
    have e4 : Ext G0 W0 G3 (W1.putObj l (.loop r2)) := ext_same e3 rfl rfl rfl (Nat.le_of_eq hsz2.symm) (fun b hb => World.putObj_heap_other (by omega)) hI0.plt
    have hRo3 := hR0.ext e4
    have q1 : OwnAs G1 W (W1.putObj l (.loop r2)) := fun b hb => (o1 b hb).trans (p1 b hb)
    have q2 : CellsAs G1 W (W1.putObj l (.loop r2)) := fun b o hb => (c1 b o hb).trans (p2 b o hb)
    have A3' := A3.par c3
    have hle2 : W.heap.size ≤ (W1.putObj l (.loop r2)).heap.size := by rw [hsz2]; exact E1.size
    revert hrec2 hdf2 I3' i1'' e4 hRo3 q1 q2 A3' hle2
    clear c3 c1 o3 o1 e3 hdf1 hrec1 i1' p1 p2 hsz2 hlt1 A3 I3
    generalize W1.putObj l (.loop r2) = W2
    intro hrec2 hdf2 I3 i1' e4 hRo3 q1 q2 A3 hle2
    refine wpIn_mono (hbody n G3 W2 a1 I3 hRo3 A3) ?_
    rintro e a2 W3 ⟨act2, H4, G4, q, E2, I4, _, _⟩
    have fin : ∀ jump : Option Code, R jump (pre ++ [y]) H4 → ∃ v w', (Instr.endRound l jump).run P W3 = .ok v w' ∧ ∃ b : Bool, Ending.returned v = .returned (.bool b) ∧ CallJ G0 W0 B l D (recOf fn a0.tmps ps assign body D) R (pre ++ [y]) (!b) G1 w' ∧ W.heap.size ≤ w'.heap.size ∧ OwnAs G1 W w' ∧ CellsAs G1 W w' := by
      intro jump hrj
      have hlt2 : l < W2.heap.size := (Array.getElem?_eq_some_iff.1 hrec2).1
      have hDt2 : D < W2.heap.size := (Array.getElem?_eq_some_iff.1 hdf2).1
      have hrec3 : W3.heap[l]? = some (.loop r2) := (E2.block l hlt2 nl3).trans hrec2
      have hdf3 : W3.heap[D]? = some (.deferred (some [])) := (E2.block D hDt2 nD3).trans hdf2
      obtain ⟨s1, s2, s3⟩ := p3.step I3 i1' E2 (hBs I3 I4 (fun i b h => E1.δ _ _ (e2.δ _ _ h)) E2.δ hfx (hfix _ _ _ hrj))
      have hend := run_endRound (P := P) jump hrec3
      refine ⟨_, _, hend, jump.isNone, rfl, ?_⟩
      have hr4 : ({ r2 with state := if jump.isNone then LoopState.ready else LoopState.done, pending := jump } : Loop) = recOf fn a0.tmps ps assign body D jump := by rw [← hr2]; rfl
      rw [hr4]
      have nl4 : ¬ G4.own l := fun h => nl3 (E2.new l hlt2 h)
      have nD4 : ¬ G4.own D := fun h => nD3 (E2.new D hDt2 h)
      have hlt3 : l < W3.heap.size := (Array.getElem?_eq_some_iff.1 hrec3).1
      have hsz4 : (W3.putObj l (.loop (recOf fn a0.tmps ps assign body D jump))).heap.size = W3.heap.size := World.putObj_size
      have cc : ∀ G : Gh, CellsAs G W3 (W3.putObj l (.loop (recOf fn a0.tmps ps assign body D jump))) := fun G => put_cells hrec3
      refine ⟨⟨⟨jump, G4, H4, by cases jump <;> rfl, hrj, ext_same (e4.trans E2) rfl rfl rfl (Nat.le_of_eq hsz4.symm) (fun b hb => World.putObj_heap_other (by omega)) hI0.plt, I4.par (Nat.le_of_eq hsz4.symm) (put_own nl4) (cc _), s3.symm, World.putObj_heap_same hlt3, nl4, nD4⟩, (World.putObj_heap_other hlD).trans hdf3, n1, n2, hold, hpr⟩, ?_, fun b hb => ?_, fun b o hb => ?_⟩
      · rw [hsz4]; exact Nat.le_trans hle2 E2.size
      · exact (put_own n1 b hb).trans ((s1 b hb).trans (q1 b hb))
      · exact (cc G1 b o hb).trans ((s2 b o hb).trans (q2 b o hb))
    cases e with
    | normal => exact fin none q
    | ret => exact fin (some .ret) q
    | exit i => exact fin (some (.exit i)) q
    | goto t => exact fin (some (.goto t)) q
    | panic ch => exact q.elim
    | outgrown => exact q.elim
end
/-- Code that leaves a mark for the rounds' deferred calls. -/
def TrM (P : Program) (ro : Nat → Option (List Value)) (c : Code) (act : List AV) (H : AH) (Q : Exit → List AV → AH → Prop) : Prop :=
  ∀ G W (a : Act), Inv G H W → Ro ro G W → RVs G W act a.tmps.toList →
    c.wp P (fun e a' W' => ∃ act' H' G' D, Q e act' H' ∧ Ext G W G' W' ∧ Inv G' H' W' ∧ RVs G' W' act' a'.tmps.toList ∧ a'.defers = { target := .collected D, args := #[] } :: a.defers ∧ W.heap.size ≤ D ∧ W'.heap[D]? = some (.deferred (some [])) ∧ ¬ G'.own D) a W
theorem TrM.mono {P : Program} {ro : Nat → Option (List Value)} {c : Code} {act : List AV} {H : AH} {Q R : Exit → List AV → AH → Prop} (h : TrM P ro c act H Q) (hq : ∀ e a h, Q e a h → R e a h) : TrM P ro c act H R :=
  fun G W a hI hR hA => wp_mono (h G W a hI hR hA) fun _ _ _ ⟨act', H', G', D, q, r⟩ => ⟨act', H', G', D, hq _ _ _ q, r⟩
theorem TrM.block {P : Program} {ro : Nat → Option (List Value)} {act : List AV} {H : AH} {Q : Exit → List AV → AH → Prop} {id : Nat} {c : Code} (h : TrM P ro c act H (leave id Q)) : TrM P ro (.block id c) act H Q := by
  intro G W a hI hR hA
  refine wp_block (wp_mono (h G W a hI hR hA) ?_)
  rintro e a1 W1 ⟨act1, H1, G1, D, q, r⟩
  cases e with
  | exit i =>
    unfold leave at q
    simp only [Exit.inBlock] at q ⊢
    split at q
    · rename_i hi; rw [if_pos hi]; exact ⟨act1, H1, G1, D, q, r⟩
    · rename_i hi; rw [if_neg hi]; exact ⟨act1, H1, G1, D, q, r⟩
  | _ => exact ⟨act1, H1, G1, D, q, r⟩
theorem TrM.range {ro : Nat → Option (List Value)} {g : Operand} {ps : Array Tmp} {assign body : Code} {act : List AV} {H : AH} {gf : FuncId} {cap cap' : List AV} (hg : ev act g = .fn (.func gf) [] cap) {ids : List Nat} {bl0 bl : List (TypeId × List AV)} {mask : List Bool} {ys : List (List Value)} {Q : Exit → List AV → AH → Prop}
    (hnd : nodupB ids = true) (hpk : pickB H ids = some bl0) (hmp : mapM (idxI ids) mask bl0 = some (bl, true)) (hcap : mapIs (idxI ids) cap = some cap') (hrig : bl0.all rigB = true)
    (hit : ItOk Try.prog ro gf cap' (hp bl []) ids.length ys) (R : RR) (hfix : ∀ pe pre h, R pe pre h → fixd ids H h) (h0 : R none [] H)
    (hround : ∀ l pre y H2, R none pre H2 → (pre ++ [y]) <+: ys → y.length = ps.size ∧ TrR Try.prog ro l assign (setps act ps.toList y) H2 fun e a h => e = .normal ∧ fixd ids H h ∧ TrR Try.prog ro l body a h (rndQ R (pre ++ [y])))
    (hdone : ∀ h, R none ys h → Q .normal act h) (hstop : ∀ c pre h, R (some c) pre h → jumpQ Q c act h) : TrM Try.prog ro (.rangeFunc g ps assign body) act H Q := by
  intro G W a hI hR hA
  obtain ⟨hl, hget⟩ := pickB_get hpk
  obtain ⟨r1, r2, _⟩ := mapM_ok hmp
  have hn := nodupB_ok hnd
  have hgr := ev_rel hA g
  rw [hg] at hgr
  obtain ⟨lb, hge, hcapr⟩ : ∃ lb : Array Value, a.eval g = .func (.func gf) #[] lb ∧ RVs G W cap lb.toList := by
    generalize a.eval g = u at hgr
    cases hgr with
    | fn q1 q2 =>
      rename_i x y
      have : x = #[] := by cases x with | mk l => cases q1; rfl
      subst this
      exact ⟨y, rfl, q2⟩
  refine (wpIn_wide (n := 0)).1 (wpIn_rangeFunc ?_)
  intro fn _
  let B : Nat → Prop := (objG ids G).own
  obtain ⟨rc, hrc⟩ : ∃ rc, rc = recOf fn a.tmps ps assign body W.heap.size := ⟨_, rfl⟩
  obtain ⟨W1, hW1⟩ : ∃ W1, (W.alloc (.deferred (some []))).alloc (.loop (rc none)) = W1 := ⟨_, rfl⟩
  have hL1 : W1.heap[W.heap.size + 1]? = some (.loop (rc none)) := by
    rw [← hW1]; have := World.alloc_heap_new (W.alloc (.deferred (some []))) (.loop (rc none)); rwa [World.size_alloc] at this
  have hK1 : W1.heap[W.heap.size]? = some (.deferred (some [])) := by
    rw [← hW1]; exact (Below.heap_alloc _ _ _ (by simp)).trans (World.alloc_heap_new W _)
  have hb1 : Below W.heap.size W W1 := by
    rw [← hW1]; exact (((Below.refl _ W).alloc (Nat.le_refl _) _).alloc (by simp) _)
  obtain ⟨E1, I1⟩ := hI.below hb1
  have hRo1 := hR.ext E1
  have hJ : JOk Try.prog ro (W.heap.size + 1) B ys (CallJ G W B (W.heap.size + 1) W.heap.size rc R) := by
    rw [hrc]
    exact callJ_ok (ids := ids) (act0 := act) hI hR hA (fun b hb => hb) (fun id hid => by
      obtain ⟨i, hi⟩ := List.getElem?_of_mem hid
      obtain ⟨b, h1, h2⟩ := hget i id hi
      rw [List.all_eq_true] at hrig
      exact ⟨b, h1, hrig _ (List.mem_of_getElem? h2)⟩) hfix (Nat.le_refl _) (by omega) (fun pre y H2 hr hp => hround _ pre y H2 hr hp)
  have hIs : Inv (objG ids G) (hp bl []) W1 := I1.objIn hn (r1.trans hl) (fun i id hi => by
    obtain ⟨b, hb, hb2⟩ := hget i id hi
    obtain ⟨cs', k1, k2⟩ := r2 i b hb2
    exact ⟨b.1, b.2, cs', hb, k1, k2⟩)
  have hargs : RVs (objG ids G) W1 (.v (.func (.yield (W.heap.size + 1)) #[] #[]) :: cap') (#[Value.func (.yield (W.heap.size + 1)) #[] #[]] ++ lb).toList := by
    rw [Array.toList_append]
    refine .cons (.v _) ?_
    exact mapIs_rel (fun i j b hij hd => objG_to (idxI_some hij) hd) (fun _ _ p => p) (hcapr.ext E1) _ hcap
  have nO : ∀ b, W.heap.size ≤ b → ¬ G.own b := fun b hb ho => by have := hI.olt b ho; omega
  have nO1 : ∀ b, W.heap.size ≤ b → ¬ (objG ids G).own b := fun b hb ⟨id, _, hd⟩ => nO b hb (hI.δown id b hd)
  obtain ⟨hfn, hcalls⟩ := hit (W.heap.size + 1) B _ hJ (objG ids G) W1 _ hIs hargs
    ⟨⟨none, G, H, rfl, h0, E1, I1, ⟨fun b h _ => h, fun b o p => .inl p, fun b o p => .inl p⟩, hL1, nO _ (by omega), nO _ (Nat.le_refl _)⟩, hK1, nO1 _ (by omega), nO1 _ (Nat.le_refl _), fun b h _ => h, fun b o p => p⟩
    (fun b ⟨id, hid, hd⟩ => by
      obtain ⟨i, hi⟩ := List.getElem?_of_mem hid
      exact ⟨i, (List.getElem?_eq_some_iff.1 hi).1, objG_to hi hd⟩)
  have eg : ∀ (args : Array Value) (w : World), (callFunc gf args).run Try.prog w = .ok (.enter gf args) w := by
    obtain ⟨f, hf, hb⟩ := hfn
    intro args w
    have hnm : ¬ f.name = "runtime.NumGoroutine" := by simpa using named gf f hf hb
    have hb' : ¬ f.body = none := fun e => by rw [e] at hb; cases hb
    simp [callFunc, Go.program, Sem.run, hf, hnm, hb']
  refine ⟨W.heap.size + 1, [{ target := .collected W.heap.size, args := #[] }], W1, { target := .fn (.func gf) lb, args := #[.func (.yield (W.heap.size + 1)) #[] #[]] }, W1, gf,
    #[.func (.yield (W.heap.size + 1)) #[] #[]] ++ lb, W1, ?_, ?_, fun _ _ => trivial, ?_, fun h => (by cases h), ?_⟩
  · rw [← hW1, hrc]; exact run_enterLoop_outer _ _ _ _ _
  · simp only [resolve, hge]
    simp [go_sem]
  · simp [invoke, go_sem, eg]
  · refine (callsIn_wide (n := 0 - 1)).2 (hcalls.mono ?_)
    clear hcalls hit
    rintro e W2 ⟨⟨v, rfl⟩, G1, pre, st, ⟨⟨pe, G2, H2, hst, hr, e2, i2, _, hrec, nl, nD⟩, hdf, _, _, _, _⟩, hend⟩
    have hne : (rc pe).state ≠ .busy := by rw [hrc]; cases pe <;> simp [recOf]
    have hpend : (rc pe).pending = pe := by rw [hrc]; rfl
    have hrun := run_endLoop (P := Try.prog) hrec hne
    obtain ⟨rx, hrx⟩ : ∃ rx : Loop, { rc pe with state := .exhausted } = rx := ⟨_, rfl⟩
    rw [hrx, hpend] at hrun
    have hDl : W.heap.size ≠ W.heap.size + 1 := by omega
    have hsz : (W2.putObj (W.heap.size + 1) (.loop rx)).heap.size = W2.heap.size := World.putObj_size
    have cc : CellsAs G2 W2 (W2.putObj (W.heap.size + 1) (.loop rx)) := put_cells hrec
    have I2 := i2.par (Nat.le_of_eq hsz.symm) (put_own nl) cc
    have E2 : Ext G W G2 (W2.putObj (W.heap.size + 1) (.loop rx)) := ext_same e2 rfl rfl rfl (Nat.le_of_eq hsz.symm) (fun b hb => World.putObj_heap_other (by omega)) hI.plt
    have hd2 : (W2.putObj (W.heap.size + 1) (.loop rx)).heap[W.heap.size]? = some (.deferred (some [])) := (World.putObj_heap_other hDl).trans hdf
    have A2 := hA.ext E2
    refine ⟨pe, _, hrun, ?_⟩
    cases pe with
    | none =>
      have hpre : pre = ys := by
        rcases hend with h | h
        · rw [hst] at h; cases h
        · exact h
      subst hpre
      exact ⟨act, H2, G2, W.heap.size, hdone _ hr, E2, I2, A2, rfl, Nat.le_refl _, hd2, nD⟩
    | some c =>
      have hq := hstop c pre H2 hr
      simp only
      cases c with
      | ret => exact wpIn_ret ⟨act, H2, G2, W.heap.size, hq, E2, I2, A2, rfl, Nat.le_refl _, hd2, nD⟩
      | exit i => exact wpIn_exit ⟨act, H2, G2, W.heap.size, hq, E2, I2, A2, rfl, Nat.le_refl _, hd2, nD⟩
      | goto t => exact wpIn_goto ⟨act, H2, G2, W.heap.size, hq, E2, I2, A2, rfl, Nat.le_refl _, hd2, nD⟩
      | _ => exact hq.elim
/-- Code whose parts are l1, x, l2: x ranges over a function. -/
def TrlM (P : Program) (ro : Nat → Option (List Value)) (l1 : List Code) (x : Code) (l2 : List Code) (act : List AV) (H : AH) (Q : Exit → List AV → AH → Prop) : Prop :=
  Trl P ro l1 act H (nx (fun a h => TrM P ro x a h (nx (fun a h => Trl P ro l2 a h Q) Q)) Q)
/-- At the end: with a mark, or without one. -/
def EndM (G : Gh) (W : World) (ds : List Deferred) (Q : Exit → List AV → AH → Prop) : Exit → Act → World → Prop := fun e a' W' => ∃ act' H' G', Q e act' H' ∧ Ext G W G' W' ∧ Inv G' H' W' ∧ RVs G' W' act' a'.tmps.toList ∧
  (a'.defers = ds ∨ ∃ D, a'.defers = { target := .collected D, args := #[] } :: ds ∧ W.heap.size ≤ D ∧ W'.heap[D]? = some (.deferred (some [])) ∧ ¬ G'.own D)
theorem endM_tr {P : Program} {ro : Nat → Option (List Value)} {G G1 : Gh} {W W1 : World} {c : Code} {act : List AV} {H : AH} {Q : Exit → List AV → AH → Prop} {a : Act} {ds : List Deferred} (h : Tr P ro c act H Q) (hR : Ro ro G W) (e1 : Ext G W G1 W1) (i1 : Inv G1 H W1) (r1 : RVs G1 W1 act a.tmps.toList)
    (hd : a.defers = ds ∨ ∃ D, a.defers = { target := .collected D, args := #[] } :: ds ∧ W.heap.size ≤ D ∧ W1.heap[D]? = some (.deferred (some [])) ∧ ¬ G1.own D) : c.wp P (EndM G W ds Q) a W1 := by
  refine wp_mono (h G1 W1 a i1 (hR.ext e1) r1) ?_
  rintro e a2 W2 ⟨act2, H2, G2, q, e2, i2, r2, d2⟩
  refine ⟨act2, H2, G2, q, e1.trans e2, i2, r2, ?_⟩
  rcases hd with hd | ⟨D, k1, k2, k3, k4⟩
  · exact .inl (d2.trans hd)
  · have hlt := (Array.getElem?_eq_some_iff.1 k3).1
    exact .inr ⟨D, d2.trans k1, k2, (e2.block D hlt k4).trans k3, fun h => k4 (e2.new D hlt h)⟩
theorem endM_trl {P : Program} {ro : Nat → Option (List Value)} {G : Gh} {W : World} {Q : Exit → List AV → AH → Prop} {ds : List Deferred} (hR : Ro ro G W) : ∀ {l : List Code} {act : List AV} {H : AH} {G1 : Gh} {W1 : World} {a : Act}, Trl P ro l act H Q → Ext G W G1 W1 → Inv G1 H W1 → RVs G1 W1 act a.tmps.toList →
    (a.defers = ds ∨ ∃ D, a.defers = { target := .collected D, args := #[] } :: ds ∧ W.heap.size ≤ D ∧ W1.heap[D]? = some (.deferred (some [])) ∧ ¬ G1.own D) → wps P (EndM G W ds Q) l a W1
  | [], _, _, G1, W1, a, h, e1, i1, r1, hd => ⟨_, _, G1, h, e1, i1, r1, hd⟩
  | x :: l, _, _, G1, W1, a, h, e1, i1, r1, hd => wp_mono (endM_tr (ds := ds) h hR e1 i1 r1 hd) fun e a2 W2 ⟨act2, H2, G2, q, e2, i2, r2, d2⟩ => by
      cases e with
      | normal => exact endM_trl hR q e2 i2 r2 d2
      | _ => exact ⟨act2, H2, G2, q, e2, i2, r2, d2⟩
/-- A function whose body ranges over a function, once. -/
theorem Fs.of_ranged {ro : Nat → Option (List Value)} {g : FuncId} {args : List AV} {H : AH} {Φ : AV → AH → Prop} (hf : ∃ fn, Try.prog.funcs[g]? = some fn ∧ fn.body.isSome = true) {l1 l2 : List Code} {x : Code} (hfl : flatten (bodyOf g) = l1 ++ x :: l2)
    (h : TrlM Try.prog ro l1 x l2 (args ++ List.replicate (slotsOf g - args.length) (.v undef)) H fun e a h => (e = .normal ∨ e = .ret) ∧ ansOk Φ (resOf Try.prog ro (resultsOf g) a h)) : Fs Try.prog ro g args H Φ := by
  intro G W cargs hI hR hA
  refine ⟨hf, ?_⟩
  obtain ⟨fn, hfn, hb⟩ := hf
  cases hc : fn.body with
  | none => rw [hc] at hb; cases hb
  | some c =>
    have e1 : bodyOf g = c := by unfold bodyOf; rw [hfn]; simp only [hc]; rfl
    have e2 : slotsOf g = fn.ntmps := by unfold slotsOf; rw [hfn]
    have e3 : resultsOf g = fn.results.toList := by unfold resultsOf; rw [hfn]
    rw [e2, e3] at h
    rw [e1] at hfl
    have hlen : args.length = cargs.size := by have := hA.len; simpa using this
    have hA0 : RVs G W (args ++ List.replicate (fn.ntmps - args.length) (.v undef)) (cargs ++ Array.replicate (fn.ntmps - cargs.size) undef).toList := by
      simp only [Array.toList_append, Array.toList_replicate]
      refine hA.app ?_
      rw [← hlen]
      generalize fn.ntmps - args.length = n
      induction n with
      | zero => exact .nil
      | succ n ih => exact .cons (.v _) ih
    generalize hQQ : (fun (e : Exit) (a : List AV) (h : AH) => (e = .normal ∨ e = .ret) ∧ ansOk Φ (resOf Try.prog ro fn.results.toList a h)) = QQ at h
    have hwp : c.wp Try.prog (EndM G W [] QQ) { tmps := cargs ++ Array.replicate (fn.ntmps - cargs.size) undef, defers := [] } W := by
      refine wp_of_flat ?_
      rw [hfl]
      refine wps_app ?_
      refine wps_mono ?_ (wps_trl (ds := []) hR h (.refl _ _) hI hA0 rfl)
      rintro e a W1 ⟨act1, H1, G1, q, x1, i1, r1, d1⟩
      cases e with
      | normal =>
        have q : TrM Try.prog ro x act1 H1 (nx (fun a h => Trl Try.prog ro l2 a h QQ) QQ) := q
        show x.wp Try.prog (Exit.then (wps Try.prog (EndM G W [] QQ) l2) (EndM G W [] QQ)) a W1
        refine wp_mono (q G1 W1 a i1 (hR.ext x1) r1) ?_
        rintro e a2 W2 ⟨act2, H2, G2, D, q2, x2, i2, r2, d2, k1, k2, k3⟩
        have hd : a2.defers = [] ∨ ∃ D, a2.defers = { target := .collected D, args := #[] } :: [] ∧ W.heap.size ≤ D ∧ W2.heap[D]? = some (.deferred (some [])) ∧ ¬ G2.own D := .inr ⟨D, by rw [d2, d1], Nat.le_trans x1.size k1, k2, k3⟩
        cases e with
        | normal => exact endM_trl (ds := []) hR q2 (x1.trans x2) i2 r2 hd
        | _ => exact ⟨act2, H2, G2, q2, x1.trans x2, i2, r2, hd⟩
      | _ => exact ⟨act1, H1, G1, q, x1, i1, r1, .inl d1⟩
    refine callsIn_wide.1 (callsIn_of_wp_marks (F := Fence.wide) (n := 0) hfn hc trivial (wpIn_wide.2 (wp_mono hwp ?_)) rfl)
    rintro e a2 W2 ⟨act2, H2, G2, q, x2, i2, r2, hd⟩
    have key : LeavesInM Fence.wide 0 Try.prog fn a2.tmps (fun e W' => ∃ c G' r H', e = .returned c ∧ Φ r H' ∧ Ext G W G' W' ∧ Inv G' H' W' ∧ RV G' W' r c) a2.defers .returning W2 := by
      rw [← hQQ] at q
      obtain ⟨_, hk⟩ := q
      unfold ansOk at hk
      split at hk
      · rename_i rh hrh
        obtain ⟨r, H3⟩ := rh
        have fin : ∀ W3, Ext G W G2 W3 → Inv G2 H2 W3 → RVs G2 W3 act2 a2.tmps.toList → ∃ v, (results fn a2.tmps).run Try.prog W3 = .ok v W3 ∧ ∃ c G' r H', Ending.returned v = .returned c ∧ Φ r H' ∧ Ext G W G' W3 ∧ Inv G' H' W3 ∧ RV G' W3 r c := by
          intro W3 x3 i3 r3
          obtain ⟨hS, c, hcr, hr⟩ := resOf_sound i3 (hR.ext x3) r3 hrh hk.1
          exact ⟨c, hcr, c, G2, r, _, rfl, hk.2, x3, inv_tidy (i3.same hS.b hS.t), hr⟩
        rcases hd with hd | ⟨D, hd, k1, k2, k3⟩
        · rw [hd]; exact fin W2 x2 i2 r2
        · rw [hd]
          have hsz : (W2.putObj D (.deferred none)).heap.size = W2.heap.size := World.putObj_size
          have cc : CellsAs G2 W2 (W2.putObj D (.deferred none)) := put_cellsD k2
          exact ⟨by simp, .inl ⟨D, _, rfl, run_takeDeferred k2, fin _ (ext_same x2 rfl rfl rfl (Nat.le_of_eq hsz.symm) (fun b hb => World.putObj_heap_other (by omega)) hI.plt) (i2.par (Nat.le_of_eq hsz.symm) (put_own k3) cc) (r2.par cc)⟩⟩
      · exact hk.elim
    have he : e = .normal ∨ e = .ret := by rw [← hQQ] at q; exact q.1
    rcases he with rfl | rfl
    · exact key
    · exact key
end Go.Proofs.Ythememoflnocnaa.AE
