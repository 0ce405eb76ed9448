/-
  An append to nothing as the last operations of a region: the new row is a block of the run's own, which may be written.
-/
import Derived.Test.YtdijakobocnceaaAEAppL
import Derived.Test.YtdijakobocnceaaAETailT
namespace Go.Proofs.Ytdijakobocnceaa.AE
set_option maxRecDepth 100000
open Go.RowKit
/-- An append of what a slot holds to what another one holds, and a name for it. -/
def appT (l : List Oper) (j1 j2 j3 i : Nat) (t : TypeId) : Prop := ∃ o3 o4 cc, l = [o3, o4] ∧ (o3.op = .call cc ∧ cc.callee = .builtin .append ∧ cc.args = #[.tmp j1, .tmp j2] ∧ cc.argTypes = #[t, t] ∧ o3.dst = some j3 ∧ o3.guard = none) ∧ o4.op = .assign (.tmp j3) ∧ o4.dst = some i ∧ o4.guard = none
theorem tl_app {P : Program} {ro : Nat → Option (List Value)} {ops : Array Oper} {l : List Oper} {i j1 j2 j3 : Nat} {t : TypeId} {E : EI} (hE : einfo P t = some E) (hc : appT l j1 j2 j3 i t) {act : List AV} {H : AH} (hcd : H.cd) {x0 x : AV} {xs : List AV} {us : List Value}
    (h1 : ev act (.tmp j1) = x0) (h0 : ∀ G W c, RV G W x0 c → ∃ ad, c = .slice ad 0 0) (hv0 : viewT P H E.size t x0 = some ([], H)) (h2 : ev act (.tmp j2) = x)
    (hv : viewT P H E.size t x = some (xs, H)) (hx : 0 < xs.length) (hus : xs.flatMap AV.cells = us.map .v) (hb : xs.length * E.bytes ≤ 140737488355328) (hm : xs.length ≤ maxLen) (l3 : j3 < act.length) :
    TlL P ro ops l act H fun e a h => e = .normal ∧ ∃ (cap : Nat) (C : List Value), xs.length ≤ cap ∧ cap ≤ maxLen ∧ C.length = cap * E.size ∧ C.take (xs.length * E.size) = us ∧ a = (act.set j3 (.sl H.blks.length 0 xs.length cap)).set i (.sl H.blks.length 0 xs.length cap) ∧ h = { H with blks := H.blks ++ [(E.e, C.map AV.v)] } := by
  obtain ⟨o3, o4, cc, rfl, ⟨p3, c1, c2, c3, e3, g3⟩, p4, e4, g4⟩ := hc
  obtain ⟨hu, info, hi, hib, his, hz, hzs, hpos, hz1⟩ := einfo_some hE
  intro G2 W2 a2 I2 hR A2
  have x1 : RV G2 W2 x0 (a2.eval (.tmp j1)) := by have := ev_rel A2 (.tmp j1); rwa [h1] at this
  have x2 : RV G2 W2 x (a2.eval (.tmp j2)) := by have := ev_rel A2 (.tmp j2); rwa [h2] at this
  obtain ⟨_, _, hvs⟩ := view_sound I2 hpos x2 hv
  obtain ⟨news, m1, m2, m3, _⟩ := hvs hcd
  have hnews : news = us := pvs_v (by rw [hus] at m1; exact m1)
  subst hnews
  have hnl : news.length = xs.length * E.size := m3.newsLen
  obtain ⟨ad, had⟩ := h0 _ _ _ x1
  obtain ⟨E3, I3⟩ := I2.below (W' := W2.drew) ((Below.refl _ _).drew)
  have x1' := x1.ext E3
  rw [had] at x1'
  obtain ⟨_, _, hv1⟩ := view_sound I3 hpos x1' hv0
  obtain ⟨_, _, _, _, hf0⟩ := hv1 hcd
  have hf0 := hf0 0 (Nat.le_refl _)
  rw [Nat.zero_mul, List.take_zero] at hf0
  have hr := run_append_grow_src (P := P) W2 t t o3.type E.e info E.z hu hi hz ad 0 0 [] (by rw [his]; exact hf0) (a2.eval (.tmp j2)) xs.length news (by rw [his]; exact m3) (by omega) (by simp only [maxLen] at hm; omega) (by rw [hib]; exact growslice_fits (by omega) (by simpa using hb))
  have hge := grownCap_ge W2 (0 + xs.length) 0 E.e
  have hle := grownCap_le_maxLen W2 (0 + xs.length) 0 E.e (by simpa using hm)
  generalize grownCap W2 (0 + xs.length) 0 E.e = cap at hr hge hle
  rw [Nat.zero_add, List.nil_append] at hr
  rw [Nat.zero_add] at hge
  obtain ⟨C, hC⟩ : ∃ C : Array Value, news.toArray ++ Builtin.zeroCells E.z.cells (cap - xs.length) = C := ⟨_, rfl⟩
  rw [hC] at hr
  have hCl : C.toList.length = cap * E.size := by
    rw [← hC, Array.length_toList, Array.size_append, List.size_toArray, hnl, size_zeroCells, hzs, ← Nat.add_mul]
    congr 1
    omega
  have hCt : C.toList.take (xs.length * E.size) = news := by
    rw [← hC, Array.toList_append, ← hnl, List.take_left']
    rfl
  have hone : ∀ u ∈ C.toList, u.oneCell' = true := fun u hu => by
    rw [← hC, Array.toList_append] at hu
    rcases List.mem_append.1 hu with hu | hu
    · exact m3.one u hu
    · exact zero_one hz1 hpos hzs u hu
  obtain ⟨G', E4, I4, hδ⟩ := I3.new E.e (einfo_ne hE) (cs := C.toList.map .v) (vs := C) (RVs.map_v _) hone
  have x3 : RV G' (W2.drew.alloc (.cells C E.e)) (.sl H.blks.length 0 xs.length cap) (.slice (some ⟨W2.heap.size, 0, none⟩) xs.length cap) := .sl hδ
  have A3 : RVs G' (W2.drew.alloc (.cells C E.e)) (act.set j3 (.sl H.blks.length 0 xs.length cap)) (a2.put o3.dst (.slice (some ⟨W2.heap.size, 0, none⟩) xs.length cap)).tmps.toList := by
    have := put_rel (A2.ext (E3.trans E4)) o3.dst x3
    rw [e3] at this ⊢
    exact this
  refine wpl_stepC (c := .slice (some ⟨W2.heap.size, 0, none⟩) xs.length cap) (W' := W2.drew.alloc (.cells C E.e)) g3 ?_ ?_
  · rw [← had] at hr
    rw [execOp, p3]
    simp [resolve, c1, c2, c3, invoke, builtin, hr]
  generalize ha3 : a2.put o3.dst (.slice (some ⟨W2.heap.size, 0, none⟩) xs.length cap) = a3 at A3 ⊢
  have r3 : RV G' (W2.drew.alloc (.cells C E.e)) (.sl H.blks.length 0 xs.length cap) (a3.eval (.tmp j3)) := by
    have := ev_rel A3 (.tmp j3)
    rwa [ev_set l3] at this
  refine wpl_stepC (c := a3.eval (.tmp j3)) (W' := W2.drew.alloc (.cells C E.e)) g4 (by rw [execOp, p4]; simp) ?_
  have A4 := put_rel A3 o4.dst r3
  refine ⟨_, _, G', ⟨rfl, cap, C.toList, hge, hle, hCl, hCt, rfl, rfl⟩, E3.trans E4, I4, ?_, ?_⟩
  · rw [e4] at A4 ⊢
    exact A4
  · rw [put_defers, ← ha3, put_defers]
end Go.Proofs.Ytdijakobocnceaa.AE
