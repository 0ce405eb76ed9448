/-
  A text's bytes as memory of the run's own, which is written: the conversion, by hand.
-/
import Derived.Test.YtimocgjeikgilaaAETr
namespace Go.Proofs.Ytimocgjeikgilaa.AE
open Go.RowKit
/-- A block's mark is laid. -/
theorem Inv.mark {G : Gh} {H : AH} {W W' : World} (h : Inv G H W) {id b : Nat} {t : TypeId} {cs : List AV} {vs : Array Value} (hb : H.blks[id]? = some (t, cs)) (hd : G.δ id = some b)
    (h1 : W.heap[b]? = some (.cells vs t (0, 0))) (h2 : W'.heap[b]? = some (.cells vs t (vs.size, vs.size + 1))) (o1 : W'.os = W.os) (o2 : W'.tape = W.tape) (o3 : W'.output = W.output) (hsz : W'.heap.size = W.heap.size)
    (hne : ∀ k, k ≠ b → W'.heap[k]? = W.heap[k]?) : Ext G W G W' ∧ Inv G { H with blks := H.blks.set id (999999, cs) } W' := by
  have hcell : ∀ k o, k ≠ b → W'.cell? ⟨k, o, none⟩ = W.cell? ⟨k, o, none⟩ := fun k o hk => by simp only [World.cell?, hne k hk]
  have E : Ext G W G W' :=
    { os := o1, tape := o2, output := o3, size := by omega, δ := fun _ _ e => e, tip := fun _ i e => ⟨i, e, .inl rfl⟩, prot := fun _ _ p => p,
      cell := fun k o p => hcell k o (by rintro rfl; exact h.δpr id k o hd p), own := fun _ o => o, new := fun _ _ o => o, block := fun k _ ho => hne k (by rintro rfl; exact ho (h.δown id k hd)), pnew := fun _ _ _ _ p => p }
  refine ⟨E, { blk := ?_, inj := h.inj, δown := h.δown, δpr := h.δpr, δlen := ?_, tip := h.tip, tlen := h.tlen, row := ?_, trow := h.trow, tδ := h.tδ, tt := h.tt, plt := ?_, olt := ?_ }⟩
  · intro i t' cs' e
    have e : (H.blks.set id (999999, cs))[i]? = some (t', cs') := e
    rw [List.getElem?_set] at e
    by_cases hi : id = i
    · subst hi
      rw [if_pos rfl] at e
      split at e
      · simp only [Option.some.injEq, Prod.mk.injEq] at e
        obtain ⟨rfl, rfl⟩ := e
        obtain ⟨b', vs', f1, ⟨x, fr, f2, _⟩, f3, f4⟩ := h.blk id t cs hb
        rw [hd] at f1
        cases f1
        rw [h1] at f2
        cases f2
        exact ⟨b, vs, hd, ⟨t, _, h2, .inr ⟨rfl, rfl⟩⟩, f3.ext E, f4⟩
      · cases e
    · rw [if_neg hi] at e
      obtain ⟨b', vs', f1, f2, f3, f4⟩ := h.blk i t' cs' e
      have hbb : b' ≠ b := by rintro rfl; exact hi (h.inj id i b' hd f1)
      exact ⟨b', vs', f1, f2.of (hne b' hbb), f3.ext E, f4⟩
  · intro i b' e
    show i < (H.blks.set id _).length
    rw [List.length_set]; exact h.δlen i b' e
  · intro t' i e
    refine (h.row t' i e).kept (r := some b) ⟨o1, o2, o3, by omega, fun k _ hk => hne k (fun e => hk (by rw [e]))⟩ ?_
    right
    intro e2
    exact h.tδ t' i b e e2 id hd
  · intro k o p; have := h.plt k o p; omega
  · intro k o; have := h.olt k o; omega
def rowA (s : ByteArray) (cap : Nat) : List AV := (bytesRow s cap).toList.map .v
theorem conv_comes {P : Program} {G : Gh} {W : World} (hI : Inv G (hp [] []) W) {src dst e : TypeId} (hs : P.underlying src = some .string) (hd : P.underlying dst = some (.slice e)) (he : P.underlying e = some (.int .u8)) (s : ByteArray) :
    ∃ cap G' W', s.size ≤ cap ∧ (convert src dst (.string s)).run P W = .ok (.slice (some ⟨W.heap.size, 0, none⟩) s.size cap) W' ∧ Ext G W G' W' ∧ Inv G' (hp [(999999, rowA s cap)] []) W' ∧ G'.δ 0 = some W.heap.size := by
  have hr := run_bytes_of_string W src dst e s hs hd he
  have hge := grownCap_ge W s.size 0 e
  generalize grownCap W s.size 0 e = cap at hr hge
  obtain ⟨E0, I0⟩ := hI.drew
  have hone : ∀ u ∈ (bytesRow s cap).toList, u.oneCell' = true := fun u hu => by
    unfold bytesRow at hu
    simp only [Array.toList_append, List.mem_append, Array.toList_map, List.mem_map, Array.toList_replicate, List.mem_replicate] at hu
    rcases hu with ⟨x, _, rfl⟩ | ⟨_, rfl⟩ <;> rfl
  obtain ⟨G', E1, I1, d1⟩ := I0.new e (cs := rowA s cap) (vs := bytesRow s cap) (RVs.map_v _) hone
  have hh1 : (W.drew.alloc (.cells (bytesRow s cap) e)).heap[W.heap.size]? = some (.cells (bytesRow s cap) e (0, 0)) := by
    show (W.heap.push _)[W.heap.size]? = _
    simp
  have hh2 : (W.drew.alloc (.cells (bytesRow s cap) e ((bytesRow s cap).size, (bytesRow s cap).size + 1))).heap[W.heap.size]? = some (.cells (bytesRow s cap) e ((bytesRow s cap).size, (bytesRow s cap).size + 1)) := by
    show (W.heap.push _)[W.heap.size]? = _
    simp
  obtain ⟨E2, I2⟩ := I1.mark (id := 0) (b := W.heap.size) (W' := W.drew.alloc (.cells (bytesRow s cap) e ((bytesRow s cap).size, (bytesRow s cap).size + 1))) rfl d1 hh1 hh2 rfl rfl rfl (by show (W.heap.push _).size = (W.heap.push _).size; simp) (fun k hk => by
    show (W.heap.push _)[k]? = (W.heap.push _)[k]?
    rw [Array.getElem?_push, Array.getElem?_push, if_neg hk, if_neg hk])
  exact ⟨cap, G', _, hge, hr, (E0.trans E1).trans E2, I2.same rfl rfl, d1⟩
theorem wpl_step {P : Program} {all : Array Oper} {o : Oper} {rest : List Oper} {a : Act} {W W' : World} {Q : Exit → Act → World → Prop} {c : Value} (hg : o.guard = none) (hr : (execOp a.eval o).run P W = .ok (.value c) W') (k : wpList P all Q rest (a.put o.dst c) W') : wpList P all Q (o :: rest) a W := by
  unfold wpList
  rw [if_pos (by simp [Region.wanted, hg])]
  left
  unfold Oper.wp
  rw [hr]
  exact k
/-- A region of three operations: a text is named, converted, and named. -/
def conv3 (c : Code) (src dst i j k l : Nat) : Prop := ∃ id o1 o2 o3, c = .region id #[o1, o2, o3] false ∧ (o1.op = .move (.tmp i) ∧ o1.dst = some j ∧ o1.guard = none) ∧ (o2.op = .convert src dst (.tmp j) ∧ o2.dst = some k ∧ o2.guard = none) ∧ o3.op = .assign (.tmp k) ∧ o3.dst = some l ∧ o3.guard = none
theorem tr_conv {P : Program} {c : Code} {src dst e i j k l : Nat} (hc : conv3 c src dst i j k l) (hs : P.underlying src = some .string) (hd : P.underlying dst = some (.slice e)) (he : P.underlying e = some (.int .u8)) {act : List AV} {s : ByteArray} (h0 : act.getD i (.v undef) = .v (.string s))
    (hj : j < act.length) (hk : k < act.length) : Tr P nro c act (hp [] []) fun x a h => x = .normal ∧ ∃ cap, s.size ≤ cap ∧ a = ((act.set j (.v (.string s))).set k (.sl 0 0 s.size cap)).set l (.sl 0 0 s.size cap) ∧ h = hp [(999999, rowA s cap)] [] := by
  obtain ⟨id, o1, o2, o3, rfl, ⟨p1, d1, g1⟩, ⟨p2, d2, g2⟩, p3, d3, g3⟩ := hc
  intro G W a hI hR hA
  refine wp_region_list ?_
  show wpList P _ _ [o1, o2, o3] a W
  have r0 : a.eval (.tmp i) = .string s := by
    have := ev_rel hA (.tmp i)
    have e0 : ev act (.tmp i) = .v (.string s) := h0
    rw [e0] at this
    generalize a.eval (.tmp i) = u at this
    cases this; rfl
  refine wpl_step (c := .string s) (W' := W) g1 (by rw [execOp, p1]; simp [r0]) ?_
  have A1 : RVs G W (act.set j (.v (.string s))) (a.put o1.dst (.string s)).tmps.toList := by
    have := put_rel hA o1.dst (r := .v (.string s)) (.v (.string s))
    rw [d1] at this ⊢
    exact this
  have r1 : (a.put o1.dst (.string s)).eval (.tmp j) = .string s := by
    have := ev_rel A1 (.tmp j)
    have e0 : ev (act.set j (.v (.string s))) (.tmp j) = .v (.string s) := by
      show (act.set j _).getD j _ = _
      rw [List.getD_eq_getElem?_getD, List.getElem?_set_self hj]; rfl
    rw [e0] at this
    generalize (a.put o1.dst (.string s)).eval (.tmp j) = u at this
    cases this; rfl
  obtain ⟨cap, G', W', hcap, hrun, E, I, dd⟩ := conv_comes hI hs hd he s
  refine wpl_step (c := .slice (some ⟨W.heap.size, 0, none⟩) s.size cap) (W' := W') g2 (by rw [execOp, p2]; simp [r1, hrun]) ?_
  have hv : RV G' W' (.sl 0 0 s.size cap) (.slice (some ⟨W.heap.size, 0, none⟩) s.size cap) := .sl dd
  have A2 : RVs G' W' ((act.set j (.v (.string s))).set k (.sl 0 0 s.size cap)) ((a.put o1.dst (.string s)).put o2.dst (.slice (some ⟨W.heap.size, 0, none⟩) s.size cap)).tmps.toList := by
    have := put_rel (A1.ext E) o2.dst hv
    rw [d2] at this ⊢
    exact this
  have r2 : ((a.put o1.dst (.string s)).put o2.dst (.slice (some ⟨W.heap.size, 0, none⟩) s.size cap)).eval (.tmp k) = .slice (some ⟨W.heap.size, 0, none⟩) s.size cap := by
    have := ev_rel A2 (.tmp k)
    have e0 : ev ((act.set j (.v (.string s))).set k (.sl 0 0 s.size cap)) (.tmp k) = .sl 0 0 s.size cap := by
      show (List.set _ k _).getD k _ = _
      rw [List.getD_eq_getElem?_getD, List.getElem?_set_self (by rw [List.length_set]; exact hk)]; rfl
    rw [e0] at this
    generalize ((a.put o1.dst (.string s)).put o2.dst (.slice (some ⟨W.heap.size, 0, none⟩) s.size cap)).eval (.tmp k) = u at this
    cases this with
    | sl q => rw [dd] at q; cases q; rfl
  refine wpl_step (c := .slice (some ⟨W.heap.size, 0, none⟩) s.size cap) (W' := W') g3 (by rw [execOp, p3]; simp [r2]) ?_
  have A3 := put_rel A2 o3.dst hv
  refine ⟨_, _, G', ⟨rfl, cap, hcap, rfl, rfl⟩, E, I, ?_, by rw [put_defers, put_defers, put_defers]⟩
  rw [d3] at A3 ⊢
  exact A3
end Go.Proofs.Ytimocgjeikgilaa.AE
