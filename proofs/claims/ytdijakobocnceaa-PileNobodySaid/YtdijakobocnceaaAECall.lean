/-
  A region that calls a function by what is known of that call alone; a fresh row of which the first cells are told.
-/
import Derived.Test.YtdijakobocnceaaAEFrzV
import Derived.Test.YtdijakobocnceaaAELit
namespace Go.Proofs.Ytdijakobocnceaa.AE
set_option maxRecDepth 100000
open Go.RowKit
def nthOpC (c : Code) (i : Nat) : Oper := match c with
  | .region _ os _ => os[i]?.getD default
  | _ => default
/-- A region of three operations: a value is named, a function is called with it, and the answer is named. -/
def call3 (c : Code) (g i j k l : Nat) : Prop := ∃ id o1 o2 o3, c = .region id #[o1, o2, o3] false ∧ (o1.op = .move (.tmp i) ∧ o1.dst = some j ∧ o1.guard = none) ∧ ((∀ act, call? act o2 = some (g, [ev act (.tmp j)])) ∧ o2.dst = some k ∧ o2.guard = none) ∧ o3.op = .assign (.tmp k) ∧ o3.dst = some l ∧ o3.guard = none
theorem wpl_stepC {P : Program} {all : Array Oper} {o : Oper} {rest : List Oper} {a : Act} {W W' : World} {Q : Exit → Act → World → Prop} {c : Value} (hg : o.guard = none) (hr : (execOp a.eval o).run P W = .ok (.value c) W') (k : wpList P all Q rest (a.put o.dst c) W') : wpList P all Q (o :: rest) a W := by
  unfold wpList
  rw [if_pos (by simp [Region.wanted, hg])]
  left
  unfold Oper.wp
  rw [hr]
  exact k
theorem ev_set {act : List AV} {j : Nat} {x : AV} (hj : j < act.length) : ev (act.set j x) (.tmp j) = x := by
  show (act.set j x).getD j _ = x
  rw [List.getD_eq_getElem?_getD, List.getElem?_set_self hj]; rfl
theorem tr_call3 {P : Program} {ro : Nat → Option (List Value)} (hN : Named P) {c : Code} {g i j k l : Nat} (hc : call3 c g i j k l) {act : List AV} {H : AH} {x : AV} {Φ : AV → AH → Prop} (hx : ev act (.tmp i) = x) (hj : j < act.length) (hk : k < act.length) (hF : Fs P ro g [x] H Φ) :
    Tr P ro c act H fun e a h => e = .normal ∧ ∃ r, Φ r h ∧ a = ((act.set j x).set k r).set l r := by
  obtain ⟨id, o1, o2, o3, rfl, ⟨p1, d1, g1⟩, ⟨p2, d2, g2⟩, p3, d3, g3⟩ := hc
  intro G W a hI hR hA
  refine wp_region_list ?_
  show wpList P _ _ [o1, o2, o3] a W
  have r0 : RV G W x (a.eval (.tmp i)) := by have := ev_rel hA (.tmp i); rwa [hx] at this
  refine wpl_stepC (c := a.eval (.tmp i)) (W' := W) g1 (by rw [execOp, p1]; simp) ?_
  have A1 : RVs G W (act.set j x) (a.put o1.dst (a.eval (.tmp i))).tmps.toList := by
    have := put_rel hA o1.dst r0
    rw [d1] at this ⊢
    exact this
  have hcall := p2 (act.set j x)
  rw [ev_set hj] at hcall
  obtain ⟨cargs, h1, h2⟩ := call_run (W := W) hN A1 hcall
  obtain ⟨hf, hcal⟩ := hF G W cargs hI hR h1
  unfold wpList
  rw [if_pos (by simp [Region.wanted, g2])]
  left
  unfold Oper.wp
  rw [h2 hf]
  refine Calls.mono hcal ?_
  rintro e W' ⟨v, G', r, H', rfl, hΦ, e1, e2, e3⟩
  have A2 : RVs G' W' ((act.set j x).set k r) ((a.put o1.dst (a.eval (.tmp i))).put o2.dst v).tmps.toList := by
    have := put_rel (A1.ext e1) o2.dst e3
    rw [d2] at this ⊢
    exact this
  have r2 : RV G' W' r (((a.put o1.dst (a.eval (.tmp i))).put o2.dst v).eval (.tmp k)) := by
    have := ev_rel A2 (.tmp k)
    rwa [ev_set (by rw [List.length_set]; exact hk)] at this
  refine wpl_stepC (c := ((a.put o1.dst (a.eval (.tmp i))).put o2.dst v).eval (.tmp k)) (W' := W') g3 (by rw [execOp, p3]; simp) ?_
  have A3 := put_rel A2 o3.dst r2
  refine ⟨_, _, G', ⟨rfl, r, hΦ, rfl⟩, e1, e2, ?_, by rw [put_defers, put_defers, put_defers]⟩
  rw [d3] at A3 ⊢
  exact A3
/-- A block that was made since, whose first cells are told, is the run's own. -/
theorem Inv.rawNew {G : Gh} {H : AH} {W W' : World} (h : Inv G H W) (hB : Below W.heap.size W W') {g : Nat} (hg : W.heap.size ≤ g) {cur : Array Value} {e : TypeId} (hb : W'.heap[g]? = some (.cells cur e (0, 0))) {us : List Value} (hl : us.length ≤ cur.size) (ht : cur.toList.take us.length = us) :
    ∃ G', Ext G W G' W' ∧ Inv G' { H with blks := H.blks ++ [(999997, us.map AV.v)] } W' ∧ G'.δ H.blks.length = some g := by
  have hsz : g < W'.heap.size := (Array.getElem?_eq_some_iff.1 hb).1
  let G1 : Gh := { δ := fun i => if i = 0 then some g else none, tip := fun _ => none, prot := G.prot, own := fun b => b = g }
  have d1 : ∀ i b, G1.δ i = some b → i = 0 ∧ b = g := fun i b hd => by
    have hd : (if i = 0 then some g else none) = some b := hd
    split at hd
    · cases hd; exact ⟨by assumption, rfl⟩
    · cases hd
  have E : Ext (bareG G) W G1 W' :=
    { os := hB.os, tape := hB.tape, output := hB.output, size := hB.size, δ := fun _ _ h => (by cases h), tip := fun _ _ h => (by cases h), prot := fun _ _ p => p
      cell := fun b o p => cell_heap (hB.block b (h.plt b o p)), own := fun _ h => h.elim
      new := fun b hb o => by
        have o : b = g := o
        omega
      block := fun b hb _ => hB.block b hb, pnew := fun _ _ _ _ p => p }
  have I1 : Inv G1 (hp [(999997, us.map AV.v)] []) W' :=
    { blk := fun id t cs hbk => by
        cases id with
        | zero =>
          simp [hp] at hbk
          obtain ⟨rfl, rfl⟩ := hbk
          exact ⟨g, us.toArray, rfl, .inr (.inr ⟨rfl, cur, e, hb, by simpa using hl, by simpa using ht⟩), RVs.map_v us, fun h => absurd rfl h.2⟩
        | succ n => simp [hp] at hbk
      inj := fun i j b hi hj => by rw [(d1 i b hi).1, (d1 j b hj).1]
      δown := fun i b hi => (d1 i b hi).2
      δpr := fun i b o hi p => by
        have := (d1 i b hi).2
        have := h.plt b o p
        omega
      δlen := fun i b hi => by rw [(d1 i b hi).1]; exact Nat.one_pos
      tip := fun t v ht => by simp [hp] at ht
      tlen := fun t i h => by cases h
      row := fun t i h => by cases h
      trow := fun t i b off n cap h => by cases h
      tδ := fun t i b h => by cases h
      tt := fun t t' i i' b h => by cases h
      plt := fun b o p => Nat.lt_of_lt_of_le (h.plt b o p) hB.size
      olt := fun b o => by
        have o : b = g := o
        omega }
  obtain ⟨G', b, x1, x2, x3, x4⟩ := h.adopt E I1 (id := 0) (t := 999997) (us := us) rfl
  have : b = g := (d1 0 b x3).2
  subst this
  exact ⟨G', x1, x2, x4⟩
end Go.Proofs.Ytdijakobocnceaa.AE
