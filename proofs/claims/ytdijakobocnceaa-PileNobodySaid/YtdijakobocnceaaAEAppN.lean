/-
  A region that appends a list to none: the new row is a block of the run's own, which may be written.
-/
import Derived.Test.YtdijakobocnceaaAECall
namespace Go.Proofs.Ytdijakobocnceaa.AE
set_option maxRecDepth 100000
open Go.RowKit
def appC (c : Code) (i q j1 j2 j3 : Nat) (t : TypeId) : Prop := ∃ id o1 o2 o3 o4 cc, c = .region id #[o1, o2, o3, o4] false ∧ (o1.op = .move (.tmp i) ∧ o1.dst = some j1 ∧ o1.guard = none) ∧ (o2.op = .move (.tmp q) ∧ o2.dst = some j2 ∧ o2.guard = none) ∧ (o3.op = .call cc ∧ cc.callee = .builtin .append ∧ cc.args = #[.tmp j1, .tmp j2] ∧ cc.argTypes = #[t, t] ∧ o3.dst = some j3 ∧ o3.guard = none) ∧ o4.op = .assign (.tmp j3) ∧ o4.dst = some i ∧ o4.guard = none
theorem ev_other {act : List AV} {j k : Nat} {x : AV} (h : j ≠ k) : ev (act.set j x) (.tmp k) = ev act (.tmp k) := by
  show (act.set j x).getD k _ = act.getD k _
  rw [List.getD_eq_getElem?_getD, List.getD_eq_getElem?_getD, List.getElem?_set_ne h]
theorem pvs_v {pr : Nat → Nat → Prop} {W : World} : ∀ {us cs : List Value}, PVs pr W (us.map AV.v) cs → cs = us
  | [], _, h => by cases h; rfl
  | u :: l, _, h => by
    cases h with
    | cons h t => cases h; rw [pvs_v t]
theorem rv_v {G : Gh} {W : World} {u c : Value} (h : RV G W (.v u) c) : c = u := by cases h; rfl
theorem zero_one {z : Array Value} {n k : Nat} (h : ∀ u ∈ z.toList, u.oneCell' = true) (hn : 0 < n) (hz : z.size = n) (u : Value) (hu : u ∈ (Builtin.zeroCells z k).toList) : u.oneCell' = true := by
  unfold Builtin.zeroCells at hu
  rw [Array.toList_map] at hu
  obtain ⟨i, _, rfl⟩ := List.mem_map.1 hu
  have hi : i % z.size < z.size := Nat.mod_lt _ (by omega)
  rw [getElem!_pos z _ hi]
  exact h _ (Array.getElem_mem_toList hi)
theorem tr_appNew {P : Program} {ro : Nat → Option (List Value)} {c : Code} {i q j1 j2 j3 : Nat} {t : TypeId} {E : EI} (hE : einfo P t = some E) (hc : appC c i q j1 j2 j3 t) {act : List AV} {H : AH} {xs : List AV} {tip : Tip} {us : List Value}
    (h1 : ev act (.tmp i) = .v (.slice none 0 0)) (h2 : ev act (.tmp q) = .lst E.size xs tip) (hx : 0 < xs.length) (hus : xs.flatMap AV.cells = us.map .v) (hb : xs.length * E.bytes ≤ 140737488355328) (hm : xs.length ≤ maxLen)
    (l1 : j1 < act.length) (l2 : j2 < act.length) (l3 : j3 < act.length) (d1 : j1 ≠ q) (d2 : j2 ≠ j1) :
    Tr P ro c act H fun e a h => e = .normal ∧ ∃ (cap : Nat) (C : List Value), xs.length ≤ cap ∧ cap ≤ maxLen ∧ C.length = cap * E.size ∧ C.take (xs.length * E.size) = us ∧ a = (((act.set j1 (.v (.slice none 0 0))).set j2 (.lst E.size xs tip)).set j3 (.sl H.blks.length 0 xs.length cap)).set i (.sl H.blks.length 0 xs.length cap) ∧ h = { H with blks := H.blks ++ [(E.e, C.map AV.v)] } := by
  obtain ⟨id, o1, o2, o3, o4, cc, rfl, ⟨p1, e1, g1⟩, ⟨p2, e2, g2⟩, ⟨p3, c1, c2, c3, e3, g3⟩, p4, e4, g4⟩ := hc
  obtain ⟨hu, info, hi, hib, his, hz, hzs, hpos, hz1⟩ := einfo_some hE
  intro G W a hI hR hA
  refine wp_region_list ?_
  show wpList P _ _ [o1, o2, o3, o4] a W
  have r0 : RV G W (.v (.slice none 0 0)) (a.eval (.tmp i)) := by have := ev_rel hA (.tmp i); rwa [h1] at this
  have A1 : RVs G W (act.set j1 (.v (.slice none 0 0))) (a.put o1.dst (a.eval (.tmp i))).tmps.toList := by
    have := put_rel hA o1.dst r0
    rw [e1] at this ⊢
    exact this
  refine wpl_stepC (c := a.eval (.tmp i)) (W' := W) g1 (by rw [execOp, p1]; simp) ?_
  generalize ha1 : a.put o1.dst (a.eval (.tmp i)) = a1 at A1 ⊢
  have h2' : ev (act.set j1 (.v (.slice none 0 0))) (.tmp q) = .lst E.size xs tip := by rw [ev_other d1, h2]
  have r1 : RV G W (.lst E.size xs tip) (a1.eval (.tmp q)) := by have := ev_rel A1 (.tmp q); rwa [h2'] at this
  have A2 : RVs G W ((act.set j1 (.v (.slice none 0 0))).set j2 (.lst E.size xs tip)) (a1.put o2.dst (a1.eval (.tmp q))).tmps.toList := by
    have := put_rel A1 o2.dst r1
    rw [e2] at this ⊢
    exact this
  refine wpl_stepC (c := a1.eval (.tmp q)) (W' := W) g2 (by rw [execOp, p2]; simp) ?_
  generalize ha2 : a1.put o2.dst (a1.eval (.tmp q)) = a2 at A2 ⊢
  have hj1 : ev ((act.set j1 (.v (.slice none 0 0))).set j2 (.lst E.size xs tip)) (.tmp j1) = .v (.slice none 0 0) := by rw [ev_other d2, ev_set l1]
  have hj2 : ev ((act.set j1 (.v (.slice none 0 0))).set j2 (.lst E.size xs tip)) (.tmp j2) = .lst E.size xs tip := ev_set (by rw [List.length_set]; exact l2)
  have x1 : RV G W (.v (.slice none 0 0)) (a2.eval (.tmp j1)) := by have := ev_rel A2 (.tmp j1); rwa [hj1] at this
  have x2 : RV G W (.lst E.size xs tip) (a2.eval (.tmp j2)) := by have := ev_rel A2 (.tmp j2); rwa [hj2] at this
  have hv : viewT P { H with cd := True } E.size t (.lst E.size xs tip) = some (xs, { H with cd := True }) := by unfold viewT; rw [hu]; exact if_pos rfl
  have hI0 : Inv G { H with cd := True } W := hI.same rfl rfl
  obtain ⟨_, _, hvs⟩ := view_sound hI0 hpos x2 hv
  obtain ⟨news, n1, n2, n3, _⟩ := hvs trivial
  have hnews : news = us := pvs_v (by rw [hus] at n1; exact n1)
  subst hnews
  have hnl : news.length = xs.length * E.size := n3.newsLen
  have hr := run_append_grow_src (P := P) W t t o3.type E.e info E.z hu hi hz none 0 0 [] (by simp [Builtin.firstCells]) (a2.eval (.tmp j2)) xs.length news (by rw [his]; exact n3) (by omega) (by simp only [maxLen] at hm; omega) (by rw [hib]; exact growslice_fits (by omega) (by simpa using hb))
  have hge := grownCap_ge W (0 + xs.length) 0 E.e
  have hle := grownCap_le_maxLen W (0 + xs.length) 0 E.e (by simpa using hm)
  generalize grownCap W (0 + xs.length) 0 E.e = cap at hr hge hle
  rw [Nat.zero_add, List.nil_append] at hr
  rw [Nat.zero_add] at hge
  obtain ⟨C, hC⟩ : ∃ C : Array Value, news.toArray ++ Builtin.zeroCells E.z.cells (cap - xs.length) = C := ⟨_, rfl⟩
  rw [hC] at hr
  have hCl : C.toList.length = cap * E.size := by
    rw [← hC, Array.length_toList, Array.size_append, List.size_toArray, hnl, size_zeroCells, hzs, ← Nat.add_mul]
    congr 1
    omega
  have hCt : C.toList.take (xs.length * E.size) = news := by
    rw [← hC, Array.toList_append, ← hnl, List.take_left']
    rfl
  have hone : ∀ u ∈ C.toList, u.oneCell' = true := fun u hu => by
    rw [← hC, Array.toList_append] at hu
    rcases List.mem_append.1 hu with hu | hu
    · exact n3.one u hu
    · exact zero_one hz1 hpos hzs u hu
  have hx1 : a2.eval (.tmp j1) = .slice none 0 0 := rv_v x1
  obtain ⟨E1, I1⟩ := hI.below (W' := W.drew) ((Below.refl _ _).drew)
  obtain ⟨G', E2, I2, hδ⟩ := I1.new E.e (einfo_ne hE) (cs := C.toList.map .v) (vs := C) (RVs.map_v _) hone
  have x3 : RV G' (W.drew.alloc (.cells C E.e)) (.sl H.blks.length 0 xs.length cap) (.slice (some ⟨W.heap.size, 0, none⟩) xs.length cap) := .sl hδ
  have A3 : RVs G' (W.drew.alloc (.cells C E.e)) (((act.set j1 (.v (.slice none 0 0))).set j2 (.lst E.size xs tip)).set j3 (.sl H.blks.length 0 xs.length cap)) (a2.put o3.dst (.slice (some ⟨W.heap.size, 0, none⟩) xs.length cap)).tmps.toList := by
    have := put_rel (A2.ext (E1.trans E2)) o3.dst x3
    rw [e3] at this ⊢
    exact this
  refine wpl_stepC (c := .slice (some ⟨W.heap.size, 0, none⟩) xs.length cap) (W' := W.drew.alloc (.cells C E.e)) g3 ?_ ?_
  · rw [← hx1] at hr
    rw [execOp, p3]
    simp [resolve, c1, c2, c3, invoke, builtin, hr]
  generalize ha3 : a2.put o3.dst (.slice (some ⟨W.heap.size, 0, none⟩) xs.length cap) = a3 at A3 ⊢
  have r3 : RV G' (W.drew.alloc (.cells C E.e)) (.sl H.blks.length 0 xs.length cap) (a3.eval (.tmp j3)) := by
    have := ev_rel A3 (.tmp j3)
    rwa [ev_set (by rw [List.length_set, List.length_set]; exact l3)] at this
  refine wpl_stepC (c := a3.eval (.tmp j3)) (W' := W.drew.alloc (.cells C E.e)) g4 (by rw [execOp, p4]; simp) ?_
  have A4 := put_rel A3 o4.dst r3
  refine ⟨_, _, G', ⟨rfl, cap, C.toList, hge, hle, hCl, hCt, rfl, rfl⟩, E1.trans E2, I2, ?_, ?_⟩
  · rw [e4] at A4 ⊢
    exact A4
  · rw [put_defers, ← ha3, put_defers, ← ha2, put_defers, ← ha1, put_defers]
end Go.Proofs.Ytdijakobocnceaa.AE
