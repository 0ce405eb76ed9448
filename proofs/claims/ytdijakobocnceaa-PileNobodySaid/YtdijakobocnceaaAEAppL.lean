/-
  A region that appends to an empty literal or to none, behind two operations that turn nothing: the new row is a block of the run's own, which may be written.
-/
import Derived.Test.YtdijakobocnceaaAEAppN
namespace Go.Proofs.Ytdijakobocnceaa.AE
set_option maxRecDepth 100000
open Go.RowKit
/-- Two operations, an append of what the second one gives to what the first one gives, and a name for it. -/
def appG (c : Code) (j1 j2 j3 i : Nat) (t : TypeId) (o1 o2 : Oper) : Prop := ∃ id o3 o4 cc, c = .region id #[o1, o2, o3, o4] false ∧ (o1.dst = some j1 ∧ o1.guard = none) ∧ (o2.dst = some j2 ∧ o2.guard = none) ∧ (o3.op = .call cc ∧ cc.callee = .builtin .append ∧ cc.args = #[.tmp j1, .tmp j2] ∧ cc.argTypes = #[t, t] ∧ o3.dst = some j3 ∧ o3.guard = none) ∧ o4.op = .assign (.tmp j3) ∧ o4.dst = some i ∧ o4.guard = none
theorem wpl_op {P : Program} {all : Array Oper} {o : Oper} {rest : List Oper} {a : Act} {W W' : World} {Q : Exit → Act → World → Prop} {nx : Next} {c : Value} (hg : o.guard = none) (hr : (execOp a.eval o).run P W = .ok nx W') (hn : nx = .value c ∨ (nx = .skip ∧ c = undef)) (k : wpList P all Q rest (a.put o.dst c) W') : wpList P all Q (o :: rest) a W := by
  rcases hn with rfl | ⟨rfl, rfl⟩
  · exact wpl_stepC hg hr k
  · unfold wpList
    rw [if_pos (by simp [Region.wanted, hg])]
    left
    unfold Oper.wp
    rw [hr]
    exact k
/-- The slice of a list that is told to be no longer than it is. -/
theorem rv_exact {G : Gh} {W : World} {sz : Nat} {c : Value} (h : RV G W (.lst sz [] .exact) c) : ∃ ad, c = .slice ad 0 0 := by
  cases h with
  | lst hn hr hs hm hc hx ht =>
    rename_i a n cap cs
    have hn : n = 0 := hn
    have ht : cap = n := ht
    subst hn
    subst ht
    exact ⟨a, rfl⟩
theorem tr_appG {P : Program} {ro : Nat → Option (List Value)} {c : Code} {i j1 j2 j3 : Nat} {t : TypeId} {E : EI} (hE : einfo P t = some E) {o1 o2 : Oper} (hc : appG c j1 j2 j3 i t o1 o2) {act : List AV} {H : AH} (hcd : H.cd) {x : AV} {xs : List AV} {us : List Value}
    (h1 : op2 P ro act H o1 = some (.lst E.size [] .exact, H)) (h2 : op2 P ro (act.set j1 (.lst E.size [] .exact)) H o2 = some (x, H))
    (hv : viewT P H E.size t x = some (xs, H)) (hx : 0 < xs.length) (hus : xs.flatMap AV.cells = us.map .v) (hb : xs.length * E.bytes ≤ 140737488355328) (hm : xs.length ≤ maxLen)
    (l1 : j1 < act.length) (l2 : j2 < act.length) (l3 : j3 < act.length) (d2 : j2 ≠ j1) :
    Tr P ro c act H fun e a h => e = .normal ∧ ∃ (cap : Nat) (C : List Value), xs.length ≤ cap ∧ cap ≤ maxLen ∧ C.length = cap * E.size ∧ C.take (xs.length * E.size) = us ∧ a = (((act.set j1 (.lst E.size [] .exact)).set j2 x).set j3 (.sl H.blks.length 0 xs.length cap)).set i (.sl H.blks.length 0 xs.length cap) ∧ h = { H with blks := H.blks ++ [(E.e, C.map AV.v)] } := by
  obtain ⟨id, o3, o4, cc, rfl, ⟨e1, g1⟩, ⟨e2, g2⟩, ⟨p3, c1, c2, c3, e3, g3⟩, p4, e4, g4⟩ := hc
  obtain ⟨hu, info, hi, hib, his, hz, hzs, hpos, hz1⟩ := einfo_some hE
  intro G W a hI hR hA
  refine wp_region_list ?_
  show wpList P _ _ [o1, o2, o3, o4] a W
  obtain ⟨G1, W1, nx1, v1, r1, n1, E1, I1, R1⟩ := op2_sound hI hR hA h1 hcd
  have A1 : RVs G1 W1 (act.set j1 (.lst E.size [] .exact)) (a.put o1.dst v1).tmps.toList := by
    have := put_rel (hA.ext E1) o1.dst R1
    rw [e1] at this ⊢
    exact this
  refine wpl_op g1 r1 n1 ?_
  generalize ha1 : a.put o1.dst v1 = a1 at A1 ⊢
  obtain ⟨G2, W2, nx2, v2, r2, n2, E2, I2, R2⟩ := op2_sound I1 (hR.ext E1) A1 h2 hcd
  have A2 : RVs G2 W2 ((act.set j1 (.lst E.size [] .exact)).set j2 x) (a1.put o2.dst v2).tmps.toList := by
    have := put_rel (A1.ext E2) o2.dst R2
    rw [e2] at this ⊢
    exact this
  refine wpl_op g2 r2 n2 ?_
  generalize ha2 : a1.put o2.dst v2 = a2 at A2 ⊢
  have hj1 : ev ((act.set j1 (.lst E.size [] .exact)).set j2 x) (.tmp j1) = .lst E.size [] .exact := by rw [ev_other d2, ev_set l1]
  have hj2 : ev ((act.set j1 (.lst E.size [] .exact)).set j2 x) (.tmp j2) = x := ev_set (by rw [List.length_set]; exact l2)
  have x1 : RV G2 W2 (.lst E.size [] .exact) (a2.eval (.tmp j1)) := by have := ev_rel A2 (.tmp j1); rwa [hj1] at this
  have x2 : RV G2 W2 x (a2.eval (.tmp j2)) := by have := ev_rel A2 (.tmp j2); rwa [hj2] at this
  obtain ⟨_, _, hvs⟩ := view_sound I2 hpos x2 hv
  obtain ⟨news, m1, m2, m3, _⟩ := hvs hcd
  have hnews : news = us := pvs_v (by rw [hus] at m1; exact m1)
  subst hnews
  have hnl : news.length = xs.length * E.size := m3.newsLen
  obtain ⟨ad, had⟩ := rv_exact x1
  obtain ⟨E3, I3⟩ := I2.below (W' := W2.drew) ((Below.refl _ _).drew)
  have x1' := x1.ext E3
  rw [had] at x1'
  obtain ⟨_, _, hv1⟩ := view_sound I3 hpos x1' (show viewT P H E.size t (.lst E.size [] .exact) = some ([], H) by unfold viewT; rw [hu]; exact if_pos rfl)
  obtain ⟨_, _, _, _, hf0⟩ := hv1 hcd
  have hf0 := hf0 0 (Nat.le_refl _)
  rw [Nat.zero_mul, List.take_zero] at hf0
  have hr := run_append_grow_src (P := P) W2 t t o3.type E.e info E.z hu hi hz ad 0 0 [] (by rw [his]; exact hf0) (a2.eval (.tmp j2)) xs.length news (by rw [his]; exact m3) (by omega) (by simp only [maxLen] at hm; omega) (by rw [hib]; exact growslice_fits (by omega) (by simpa using hb))
  have hge := grownCap_ge W2 (0 + xs.length) 0 E.e
  have hle := grownCap_le_maxLen W2 (0 + xs.length) 0 E.e (by simpa using hm)
  generalize grownCap W2 (0 + xs.length) 0 E.e = cap at hr hge hle
  rw [Nat.zero_add, List.nil_append] at hr
  rw [Nat.zero_add] at hge
  obtain ⟨C, hC⟩ : ∃ C : Array Value, news.toArray ++ Builtin.zeroCells E.z.cells (cap - xs.length) = C := ⟨_, rfl⟩
  rw [hC] at hr
  have hCl : C.toList.length = cap * E.size := by
    rw [← hC, Array.length_toList, Array.size_append, List.size_toArray, hnl, size_zeroCells, hzs, ← Nat.add_mul]
    congr 1
    omega
  have hCt : C.toList.take (xs.length * E.size) = news := by
    rw [← hC, Array.toList_append, ← hnl, List.take_left']
    rfl
  have hone : ∀ u ∈ C.toList, u.oneCell' = true := fun u hu => by
    rw [← hC, Array.toList_append] at hu
    rcases List.mem_append.1 hu with hu | hu
    · exact m3.one u hu
    · exact zero_one hz1 hpos hzs u hu
  obtain ⟨G', E4, I4, hδ⟩ := I3.new E.e (einfo_ne hE) (cs := C.toList.map .v) (vs := C) (RVs.map_v _) hone
  have x3 : RV G' (W2.drew.alloc (.cells C E.e)) (.sl H.blks.length 0 xs.length cap) (.slice (some ⟨W2.heap.size, 0, none⟩) xs.length cap) := .sl hδ
  have A3 : RVs G' (W2.drew.alloc (.cells C E.e)) (((act.set j1 (.lst E.size [] .exact)).set j2 x).set j3 (.sl H.blks.length 0 xs.length cap)) (a2.put o3.dst (.slice (some ⟨W2.heap.size, 0, none⟩) xs.length cap)).tmps.toList := by
    have := put_rel (A2.ext (E3.trans E4)) o3.dst x3
    rw [e3] at this ⊢
    exact this
  refine wpl_stepC (c := .slice (some ⟨W2.heap.size, 0, none⟩) xs.length cap) (W' := W2.drew.alloc (.cells C E.e)) g3 ?_ ?_
  · rw [← had] at hr
    rw [execOp, p3]
    simp [resolve, c1, c2, c3, invoke, builtin, hr]
  generalize ha3 : a2.put o3.dst (.slice (some ⟨W2.heap.size, 0, none⟩) xs.length cap) = a3 at A3 ⊢
  have r3 : RV G' (W2.drew.alloc (.cells C E.e)) (.sl H.blks.length 0 xs.length cap) (a3.eval (.tmp j3)) := by
    have := ev_rel A3 (.tmp j3)
    rwa [ev_set (by rw [List.length_set, List.length_set]; exact l3)] at this
  refine wpl_stepC (c := a3.eval (.tmp j3)) (W' := W2.drew.alloc (.cells C E.e)) g4 (by rw [execOp, p4]; simp) ?_
  have A4 := put_rel A3 o4.dst r3
  refine ⟨_, _, G', ⟨rfl, cap, C.toList, hge, hle, hCl, hCt, rfl, rfl⟩, E1.trans (E2.trans (E3.trans E4)), I4, ?_, ?_⟩
  · rw [e4] at A4 ⊢
    exact A4
  · rw [put_defers, ← ha3, put_defers, ← ha2, put_defers, ← ha1, put_defers]
end Go.Proofs.Ytdijakobocnceaa.AE
