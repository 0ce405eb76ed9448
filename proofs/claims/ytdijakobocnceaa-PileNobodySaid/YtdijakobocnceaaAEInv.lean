/-
  What the abstract run's memory stands for in a world, and that it goes on standing for it: a new block, a store, an append.
-/
import Derived.Test.YtdijakobocnceaaAE
import Derived.Deep.MidRow
namespace Go.Proofs.Ytdijakobocnceaa.AE
set_option maxRecDepth 100000
open Go.RowKit
def kvs : List MapEntry → List Value
  | [] => []
  | e :: l => e.key :: e.val :: kvs l
/-- A block of the run's own: of its type, or a row of bytes of a text, which bears a mark behind its end, or a map, or cells of which the first ones are told. -/
def BkAt (W : World) (b : Nat) (t : TypeId) (vs : Array Value) : Prop := (∃ e fr, W.heap[b]? = some (.cells vs e fr) ∧ ((e = t ∧ OkT t ∧ fr = (0, 0)) ∨ (t = 999999 ∧ fr = (vs.size, vs.size + 1)))) ∨ (t = 999998 ∧ ∃ es clk, W.heap[b]? = some (.map es clk) ∧ vs.toList = kvs es.toList) ∨ (t = 999997 ∧ ∃ cur e, W.heap[b]? = some (.cells cur e (0, 0)) ∧ vs.size ≤ cur.size ∧ cur.toList.take vs.size = vs.toList)
theorem BkAt.of {W W' : World} {b : Nat} {t : TypeId} {vs : Array Value} (h : BkAt W b t vs) (e : W'.heap[b]? = W.heap[b]?) : BkAt W' b t vs := by
  rcases h with ⟨x, fr, h1, h2⟩ | ⟨ht, es, clk, h1, h2⟩ | ⟨ht, cur, x, h1, h2⟩
  · exact .inl ⟨x, fr, e.trans h1, h2⟩
  · exact .inr (.inl ⟨ht, es, clk, e.trans h1, h2⟩)
  · exact .inr (.inr ⟨ht, cur, x, e.trans h1, h2⟩)
theorem BkAt.cells {W : World} {b : Nat} {t : TypeId} {vs : Array Value} (h : BkAt W b t vs) (hm : OkT t) : ∃ e fr, W.heap[b]? = some (.cells vs e fr) ∧ ((e = t ∧ OkT t ∧ fr = (0, 0)) ∨ (t = 999999 ∧ fr = (vs.size, vs.size + 1))) := by
  rcases h with h | ⟨ht, _⟩ | ⟨ht, _⟩
  · exact h
  · exact absurd ht hm.1
  · exact absurd ht hm.2
theorem BkAt.cell {W : World} {b : Nat} {t : TypeId} {vs : Array Value} (h : BkAt W b t vs) (hm : OkT t) (j : Nat) : W.cell? ⟨b, j, none⟩ = vs[j]? := by
  obtain ⟨x, fr, h1, h2⟩ := h.cells hm
  simp [World.cell?, h1]
theorem BkAt.thaw {W : World} {b : Nat} {t : TypeId} {vs : Array Value} (h : BkAt W b t vs) (hm : OkT t) (j : Nat) (hj : j < vs.size) : W.frozen? ⟨b, j, none⟩ = false := by
  obtain ⟨x, fr, h1, h2⟩ := h.cells hm
  rcases h2 with ⟨_, _, rfl⟩ | ⟨_, rfl⟩
  · simp [World.frozen?, h1]
  · simp [World.frozen?, h1]; omega
theorem BkAt.plain {W : World} {b : Nat} {t : TypeId} {vs : Array Value} (h : BkAt W b t vs) (hm : OkT t) (ht : ¬ t = 999999) : W.heap[b]? = some (.cells vs t (0, 0)) := by
  obtain ⟨x, fr, h1, h2⟩ := h.cells hm
  rcases h2 with ⟨rfl, _, rfl⟩ | ⟨h2, _⟩
  · exact h1
  · exact absurd h2 ht
theorem BkAt.mk {W : World} {b : Nat} {t : TypeId} {vs : Array Value} (hm : OkT t) (h : W.heap[b]? = some (.cells vs t (0, 0))) : BkAt W b t vs := .inl ⟨t, _, h, .inl ⟨rfl, hm, rfl⟩⟩
theorem BkAt.map {W : World} {b : Nat} {vs : Array Value} (h : BkAt W b 999998 vs) : ∃ es clk, W.heap[b]? = some (.map es clk) ∧ vs.toList = kvs es.toList := by
  rcases h with ⟨e, fr, h1, h2⟩ | ⟨_, h⟩ | ⟨h, _⟩
  · rcases h2 with ⟨_, h2, _⟩ | ⟨h2, _⟩
    · exact absurd rfl h2.1
    · exact absurd h2 (by decide)
  · exact h
  · exact absurd h (by decide)
/-- Cells of which the first ones are told. -/
theorem BkAt.raw {W : World} {b : Nat} {vs : Array Value} (h : BkAt W b 999997 vs) : ∃ cur e, W.heap[b]? = some (.cells cur e (0, 0)) ∧ vs.size ≤ cur.size ∧ cur.toList.take vs.size = vs.toList := by
  rcases h with ⟨e, fr, h1, h2⟩ | ⟨h, _⟩ | ⟨_, h⟩
  · rcases h2 with ⟨_, h2, _⟩ | ⟨h2, _⟩
    · exact absurd rfl h2.2
    · exact absurd h2 (by decide)
  · exact absurd h (by decide)
  · exact h
structure Inv (G : Gh) (H : AH) (W : World) : Prop where
  blk : ∀ id t cs, H.blks[id]? = some (t, cs) → ∃ b vs, G.δ id = some b ∧ BkAt W b t vs ∧ RVs G W cs vs.toList ∧ (OkT t → ∀ u ∈ vs.toList, u.oneCell' = true)
  inj : ∀ i j b, G.δ i = some b → G.δ j = some b → i = j
  δown : ∀ i b, G.δ i = some b → G.own b
  δpr : ∀ i b o, G.δ i = some b → ¬ G.prot b o
  δlen : ∀ i b, G.δ i = some b → i < H.blks.length
  tip : ∀ (t ver : Nat), H.tips[t]? = some ver → ∃ i, G.tip t = some i ∧ i.ver = ver
  tlen : ∀ t i, G.tip t = some i → t < H.tips.length
  row : ∀ t i, G.tip t = some i → Row W 0 i.sz i.v i.n i.cells
  trow : ∀ t i b off n cap, G.tip t = some i → i.v = .slice (some ⟨b, off, none⟩) n cap → off = 0 ∧ G.own b ∧ (∀ o, o < i.n * i.sz → G.prot b o) ∧ ∀ o, i.n * i.sz ≤ o → ¬ G.prot b o
  tδ : ∀ t i b, G.tip t = some i → i.v.ownBlock = some b → ∀ id, G.δ id ≠ some b
  tt : ∀ t t' i i' b, G.tip t = some i → G.tip t' = some i' → i.v.ownBlock = some b → i'.v.ownBlock = some b → t = t'
  plt : ∀ b o, G.prot b o → b < W.heap.size
  olt : ∀ b, G.own b → b < W.heap.size
section
variable {G : Gh} {H : AH} {W : World}
theorem Inv.same (h : Inv G H W) {H' : AH} (hb : H'.blks = H.blks) (ht : H'.tips = H.tips) : Inv G H' W := by
  cases h
  constructor <;> first | (rw [hb]; assumption) | (rw [ht]; assumption) | assumption
theorem Inv.δlt (h : Inv G H W) {i b : Nat} (e : G.δ i = some b) : b < W.heap.size := h.olt b (h.δown i b e)
/-- A new block of the run's own. -/
theorem Inv.newO (h : Inv G H W) (obj : Obj) (t : TypeId) {cs : List AV} {vs : Array Value} (hr : RVs G W cs vs.toList) (hone : OkT t → ∀ u ∈ vs.toList, u.oneCell' = true) (hbk : ∀ W', W'.heap[W.heap.size]? = some obj → BkAt W' W.heap.size t vs) :
    ∃ G', Ext G W G' (W.alloc obj) ∧ Inv G' { H with blks := H.blks ++ [(t, cs)] } (W.alloc obj) ∧ G'.δ H.blks.length = some W.heap.size := by
  have hsz : (W.alloc obj).heap.size = W.heap.size + 1 := by show (W.heap.push _).size = _; simp
  have hold : ∀ b, b < W.heap.size → (W.alloc obj).heap[b]? = W.heap[b]? := fun b hb => Below.heap_alloc W _ b hb
  have hcell : ∀ b o, b < W.heap.size → (W.alloc obj).cell? ⟨b, o, none⟩ = W.cell? ⟨b, o, none⟩ := fun b o hb => by simp only [World.cell?, hold b hb]
  have hfr : ∀ b o, b < W.heap.size → (W.alloc obj).frozen? ⟨b, o, none⟩ = W.frozen? ⟨b, o, none⟩ := fun b o hb => by simp only [World.frozen?, hold b hb]
  have hno : G.δ H.blks.length = none := by
    cases e : G.δ H.blks.length with
    | none => rfl
    | some b => have := h.δlen _ _ e; omega
  let G' : Gh := { G with δ := fun i => if i = H.blks.length then some W.heap.size else G.δ i, own := fun b => G.own b ∨ b = W.heap.size }
  have hδ : ∀ i b, G.δ i = some b → G'.δ i = some b := fun i b e => by
    have : i ≠ H.blks.length := by rintro rfl; rw [hno] at e; cases e
    show (if _ then _ else _) = _
    rw [if_neg this]; exact e
  have hδ' : ∀ i b, G'.δ i = some b → G.δ i = some b ∨ (i = H.blks.length ∧ b = W.heap.size) := fun i b e => by
    by_cases hi : i = H.blks.length
    · have e : (if i = H.blks.length then some W.heap.size else G.δ i) = some b := e
      rw [if_pos hi] at e; exact .inr ⟨hi, (Option.some.inj e).symm⟩
    · have e : (if i = H.blks.length then some W.heap.size else G.δ i) = some b := e
      rw [if_neg hi] at e; exact .inl e
  have E : Ext G W G' (W.alloc obj) :=
    { os := rfl, tape := rfl, output := rfl, size := by omega, δ := hδ, tip := fun _ i e => ⟨i, e, .inl rfl⟩, prot := fun _ _ p => p, cell := fun b o p => hcell b o (h.plt b o p),
      own := fun b o => .inl o, new := fun b hb o => by
        rcases o with o | o
        · exact o
        · omega
      block := fun b hb _ => hold b hb, pnew := fun _ _ _ _ p => p }
  refine ⟨G', E, ?_, by show (if _ then _ else _) = _; rw [if_pos rfl]⟩
  refine { blk := ?_, inj := ?_, δown := ?_, δpr := ?_, δlen := ?_, tip := h.tip, tlen := h.tlen, row := ?_, trow := ?_, tδ := ?_, tt := h.tt, plt := ?_, olt := ?_ }
  · intro id t' cs' e
    have e : (H.blks ++ [(t, cs)])[id]? = some (t', cs') := e
    by_cases hi : id < H.blks.length
    · rw [List.getElem?_append_left hi] at e
      obtain ⟨b, vs', e1, e2, e3, e4⟩ := h.blk id t' cs' e
      exact ⟨b, vs', hδ _ _ e1, e2.of (hold b (h.δlt e1)), e3.ext E, e4⟩
    · rw [List.getElem?_append_right (by omega)] at e
      have hi2 : id - H.blks.length = 0 := by
        rcases Nat.eq_zero_or_pos (id - H.blks.length) with h0 | h0
        · exact h0
        · rw [List.getElem?_eq_none (by simp only [List.length_cons, List.length_nil]; omega)] at e; cases e
      rw [hi2] at e
      simp only [List.getElem?_cons_zero, Option.some.injEq, Prod.mk.injEq] at e
      obtain ⟨rfl, rfl⟩ := e
      have hid : id = H.blks.length := by omega
      subst hid
      refine ⟨W.heap.size, vs, by show (if _ then _ else _) = _; rw [if_pos rfl], hbk _ ?_, hr.ext E, hone⟩
      show (W.heap.push _)[W.heap.size]? = _
      simp
  · intro i j b e1 e2
    rcases hδ' i b e1 with e1 | ⟨rfl, rfl⟩ <;> rcases hδ' j _ e2 with e2 | ⟨rfl, e3⟩
    · exact h.inj i j b e1 e2
    · have := h.δlt e1; omega
    · have := h.δlt e2; omega
    · rfl
  · intro i b e
    rcases hδ' i b e with e | ⟨rfl, rfl⟩
    · exact .inl (h.δown i b e)
    · exact .inr rfl
  · intro i b o e p
    rcases hδ' i b e with e | ⟨rfl, rfl⟩
    · exact h.δpr i b o e p
    · have := h.plt _ _ p; omega
  · intro i b e
    show i < (H.blks ++ [(t, cs)]).length
    rw [List.length_append]
    rcases hδ' i b e with e | ⟨rfl, rfl⟩
    · have := h.δlen i b e; omega
    · simp
  · intro t' i e
    exact (h.row t' i e).kept (only_below ((Below.refl W.heap.size W).alloc (Nat.le_refl _) _) none) (by cases i.v.ownBlock <;> simp)
  · intro t' i b off n cap e ev
    obtain ⟨h1, h2, h3, h4⟩ := h.trow t' i b off n cap e ev
    exact ⟨h1, .inl h2, h3, h4⟩
  · intro t' i b e ev id e2
    rcases hδ' id b e2 with e2 | ⟨rfl, rfl⟩
    · exact h.tδ t' i b e ev id e2
    · have := (h.row t' i e).lt _ ev; omega
  · intro b o p
    have := h.plt b o p; omega
  · intro b o
    rcases o with o | o
    · have := h.olt b o; omega
    · omega
/-- A new block of the run's own. -/
theorem Inv.new (h : Inv G H W) (t : TypeId) (hm : OkT t) {cs : List AV} {vs : Array Value} (hr : RVs G W cs vs.toList) (hone : ∀ u ∈ vs.toList, u.oneCell' = true) :
    ∃ G', Ext G W G' (W.alloc (.cells vs t)) ∧ Inv G' { H with blks := H.blks ++ [(t, cs)] } (W.alloc (.cells vs t)) ∧ G'.δ H.blks.length = some W.heap.size :=
  h.newO (.cells vs t) t hr (fun _ => hone) fun _ e => .mk hm e
theorem setCells_heap (g : Nat) : ∀ (vs : List Value) (o : Nat) (w : World) (k : Nat), k ≠ g → (w.setCells g o vs).heap[k]? = w.heap[k]? := by
  intro vs
  induction vs with
  | nil => intro o w k _; rfl
  | cons v vs ih => intro o w k hk; exact (ih (o + 1) _ k hk).trans (Below.heap_setCell _ _ _ _ hk)
theorem setCells_size (g : Nat) : ∀ (vs : List Value) (o : Nat) (w : World), (w.setCells g o vs).heap.size = w.heap.size := by
  intro vs
  induction vs with
  | nil => intro o w; rfl
  | cons v vs ih => intro o w; exact (ih (o + 1) _).trans (by simp [World.setCell])
theorem setCells_os (g : Nat) : ∀ (vs : List Value) (o : Nat) (w : World), (w.setCells g o vs).os = w.os ∧ (w.setCells g o vs).tape = w.tape ∧ (w.setCells g o vs).output = w.output := by
  intro vs
  induction vs with
  | nil => intro o w; exact ⟨rfl, rfl, rfl⟩
  | cons v vs ih => intro o w; exact ih (o + 1) _
theorem setCells_at (g : Nat) (t : TypeId) (fr : Nat × Nat) : ∀ (vs : List Value) (o : Nat) (w : World) (cs : Array Value), w.heap[g]? = some (.cells cs t fr) → o + vs.length ≤ cs.size →
    (w.setCells g o vs).heap[g]? = some (.cells (cs.toList.take o ++ vs ++ cs.toList.drop (o + vs.length)).toArray t fr) := by
  intro vs
  induction vs with
  | nil => intro o w cs h _; simpa [World.setCells] using h
  | cons v vs ih =>
    intro o w cs h hl
    simp only [List.length_cons] at hl
    have h1 : (w.setCell ⟨g, o, none⟩ v).heap[g]? = some (.cells (cs.setIfInBounds o v) t fr) := by simp [World.setCell, Array.getElem?_modify, h]
    have := ih (o + 1) _ _ h1 (by simp; omega)
    refine Eq.trans this ?_
    congr 3
    have ho : o < cs.toList.length := by simp; omega
    rw [Array.toList_setIfInBounds, List.take_set, List.drop_set, if_pos (by omega), List.take_succ_eq_append_getElem ho, List.set_append, if_neg (by rw [List.length_take]; omega), List.length_take]
    rw [show o - min o cs.toList.length = 0 by omega]
    simp [Nat.add_assoc, Nat.add_comm 1]
/-- A store into a block of the run's own. -/
def splice (cs : List AV) (off : Nat) (xs : List AV) : List AV := cs.take off ++ xs ++ cs.drop (off + xs.length)
theorem Inv.store (h : Inv G H W) {id : Nat} {t : TypeId} {cs xs : List AV} {us : List Value} {b off : Nat} (hb : H.blks[id]? = some (t, cs)) (hm : OkT t) (hd : G.δ id = some b) (hx : RVs G W xs us) (hone : ∀ u ∈ us, u.oneCell' = true) (hl : off + xs.length ≤ cs.length) :
    Ext G W G (W.setCells b off us) ∧ Inv G { H with blks := H.blks.set id (t, splice cs off xs) } (W.setCells b off us) := by
  obtain ⟨b', vs, e1, e2, e3, e4⟩ := h.blk id t cs hb
  rw [hd] at e1
  cases e1
  have hlen : vs.size = cs.length := by have := e3.len; simpa using this.symm
  have hxl := hx.len
  have hat : BkAt (W.setCells b off us) b t (vs.toList.take off ++ us ++ vs.toList.drop (off + us.length)).toArray := by
    obtain ⟨e, fr, g1, g2⟩ := e2.cells hm
    refine .inl ⟨e, fr, setCells_at b e fr us off W vs g1 (by omega), ?_⟩
    rcases g2 with g2 | ⟨g2, g3⟩
    · exact .inl g2
    · refine .inr ⟨g2, ?_⟩
      have hs : (vs.toList.take off ++ us ++ vs.toList.drop (off + us.length)).toArray.size = vs.size := by
        simp only [List.size_toArray, List.length_append, List.length_take, List.length_drop, Array.length_toList]
        omega
      rw [hs]; exact g3
  have hne : ∀ k, k ≠ b → (W.setCells b off us).heap[k]? = W.heap[k]? := fun k hk => setCells_heap b us off W k hk
  have hsz := setCells_size b us off W
  have hcell : ∀ k o, k ≠ b → (W.setCells b off us).cell? ⟨k, o, none⟩ = W.cell? ⟨k, o, none⟩ := fun k o hk => by simp only [World.cell?, hne k hk]
  obtain ⟨o1, o2, o3⟩ := setCells_os b us off W
  have E : Ext G W G (W.setCells b off us) :=
    { os := o1, tape := o2, output := o3, size := by omega, δ := fun _ _ e => e, tip := fun _ i e => ⟨i, e, .inl rfl⟩, prot := fun _ _ p => p,
      cell := fun k o p => hcell k o (by rintro rfl; exact h.δpr id k o hd p), own := fun _ o => o, new := fun _ _ o => o, block := fun k _ ho => hne k (by rintro rfl; exact ho (h.δown id k hd)), pnew := fun _ _ _ _ p => p }
  refine ⟨E, { blk := ?_, inj := h.inj, δown := h.δown, δpr := h.δpr, δlen := ?_, tip := h.tip, tlen := h.tlen, row := ?_, trow := h.trow, tδ := h.tδ, tt := h.tt, plt := ?_, olt := ?_ }⟩
  · intro i t' cs' e
    have e : (H.blks.set id (t, splice cs off xs))[i]? = some (t', cs') := e
    rw [List.getElem?_set] at e
    by_cases hi : id = i
    · subst hi
      rw [if_pos rfl] at e
      split at e
      · simp only [Option.some.injEq, Prod.mk.injEq] at e
        obtain ⟨rfl, rfl⟩ := e
        refine ⟨b, _, hd, hat, ?_, fun _ u hu => ?_⟩
        rotate_left
        · simp only [List.mem_append] at hu
          rcases hu with (hu | hu) | hu
          · exact e4 hm u (List.mem_of_mem_take hu)
          · exact hone u hu
          · exact e4 hm u (List.mem_of_mem_drop hu)
        have := ((e3.take off).app hx).app (e3.drop (off + us.length))
        unfold splice
        rw [hxl]
        exact this.ext E
      · cases e
    · rw [if_neg hi] at e
      obtain ⟨b', vs', f1, f2, f3, f4⟩ := h.blk i t' cs' e
      have hbb : b' ≠ b := by rintro rfl; exact hi (h.inj id i b' hd f1)
      exact ⟨b', vs', f1, f2.of (hne b' hbb), f3.ext E, f4⟩
  · intro i b' e
    show i < (H.blks.set id _).length
    rw [List.length_set]; exact h.δlen i b' e
  · intro t' i e
    refine (h.row t' i e).kept (r := some b) ⟨o1, o2, o3, by omega, fun k _ hk => hne k (fun e => hk (by rw [e]))⟩ ?_
    right
    intro e2
    exact h.tδ t' i b e e2 id hd
  · intro k o p; have := h.plt k o p; omega
  · intro k o; have := h.olt k o; omega
def tipG (G : Gh) (tk : Nat) (i : Info) (b : Nat) (own : Bool) : Gh :=
  { G with tip := fun t => if t = tk then some i else G.tip t, prot := fun k o => G.prot k o ∨ (k = b ∧ o < i.n * i.sz), own := fun k => G.own k ∨ (own = true ∧ k = b) }
/-- How the row tk is counted on. -/
structure TipsOn (H : AH) (G : Gh) (tk ver : Nat) (tips' : List Nat) : Prop where
  other : ∀ t, t ≠ tk → tips'[t]? = H.tips[t]?
  this : tips'[tk]? = some ver
  len : H.tips.length ≤ tips'.length
  up : ∀ i, G.tip tk = some i → i.ver < ver
theorem TipsOn.lt {H : AH} {G : Gh} {tk ver : Nat} {tips' : List Nat} (h : TipsOn H G tk ver tips') : tk < tips'.length := (List.getElem?_eq_some_iff.1 h.this).1
/-- A row lies in a new block. -/
theorem Inv.tipBlk (h : Inv G H W) {tk ver : Nat} {tips' : List Nat} (ht : TipsOn H G tk ver tips') {C : Array Value} {e : TypeId} {sz n cap : Nat} {cells : List Value} (hl : cells.length = n * sz) (hc : ∀ (j : Nat) (u : Value), cells[j]? = some u → C[j]? = some u)
    (hn : n ≤ cap) (hm : cap ≤ maxLen) (hC : C.size = cap * sz) {W1 : World} (hW1 : W1.heap = W.heap ∧ W1.os = W.os ∧ W1.tape = W.tape ∧ W1.output = W.output) {fr : Nat × Nat} (hfr : ∀ j, j < C.size → (decide (fr.1 ≤ j) && decide (j < fr.2)) = false) :
    Ext G W (tipG G tk ⟨ver, sz, .slice (some ⟨W.heap.size, 0, none⟩) n cap, n, cells⟩ W.heap.size true) (W1.alloc (.cells C e fr)) ∧
    Inv (tipG G tk ⟨ver, sz, .slice (some ⟨W.heap.size, 0, none⟩) n cap, n, cells⟩ W.heap.size true) { H with tips := tips' } (W1.alloc (.cells C e fr)) := by
  have hsz : (W1.alloc (.cells C e fr)).heap.size = W.heap.size + 1 := by show (W1.heap.push _).size = _; rw [hW1.1]; simp
  have hold : ∀ b, b < W.heap.size → (W1.alloc (.cells C e fr)).heap[b]? = W.heap[b]? := fun b hb => (Below.heap_alloc W1 _ b (by rw [hW1.1]; exact hb)).trans (by rw [hW1.1])
  have hcell : ∀ b o, b < W.heap.size → (W1.alloc (.cells C e fr)).cell? ⟨b, o, none⟩ = W.cell? ⟨b, o, none⟩ := fun b o hb => by simp only [World.cell?, hold b hb]
  have hat : (W1.alloc (.cells C e fr)).heap[W.heap.size]? = some (.cells C e fr) := by show (W1.heap.push _)[W.heap.size]? = _; rw [hW1.1]; simp
  have hbkc : ∀ k, (W1.alloc (.cells C e fr)).cell? ⟨W.heap.size, k, none⟩ = C[k]? := fun k => by simp [World.cell?, hat]
  have hbkf : ∀ k, k < C.size → (W1.alloc (.cells C e fr)).frozen? ⟨W.heap.size, k, none⟩ = false := fun k hk => by simp only [World.frozen?, hat]; exact hfr k hk
  generalize hi : (⟨ver, sz, .slice (some ⟨W.heap.size, 0, none⟩) n cap, n, cells⟩ : Info) = i
  have E : Ext G W (tipG G tk i W.heap.size true) (W1.alloc (.cells C e fr)) :=
    { os := hW1.2.1, tape := hW1.2.2.1, output := hW1.2.2.2, size := by omega, δ := fun _ _ e => e
      tip := fun t j e => by
        by_cases ht' : t = tk
        · subst ht'
          exact ⟨i, by show (if _ then _ else _) = _; rw [if_pos rfl], .inr (by have := ht.up j e; rw [← hi]; exact this)⟩
        · exact ⟨j, by show (if _ then _ else _) = _; rw [if_neg ht']; exact e, .inl rfl⟩
      prot := fun _ _ p => .inl p, cell := fun b o p => hcell b o (h.plt b o p), own := fun _ o => .inl o
      new := fun b hb o => by
        rcases o with o | ⟨_, o⟩
        · exact o
        · omega
      block := fun b hb _ => hold b hb
      pnew := fun b q hb _ p => by
        rcases p with p | ⟨p, _⟩
        · exact p
        · omega }
  have tips : ∀ t j, (tipG G tk i W.heap.size true).tip t = some j → (t = tk ∧ j = i) ∨ (t ≠ tk ∧ G.tip t = some j) := fun t j e => by
    have e : (if t = tk then some i else G.tip t) = some j := e
    split at e
    · rename_i ht'; exact .inl ⟨ht', (Option.some.inj e).symm⟩
    · rename_i ht'; exact .inr ⟨ht', e⟩
  have iv : i.v = .slice (some ⟨W.heap.size, 0, none⟩) n cap := by rw [← hi]
  have is : i.sz = sz := by rw [← hi]
  have inn : i.n = n := by rw [← hi]
  have ic : i.cells = cells := by rw [← hi]
  have iow : ∀ b, i.v.ownBlock = some b → b = W.heap.size := fun b hb => by rw [iv] at hb; simpa [Value.ownBlock] using hb.symm
  refine ⟨E, { blk := ?_, inj := h.inj, δown := fun k b e => .inl (h.δown k b e), δpr := ?_, δlen := h.δlen, tip := ?_, tlen := ?_, row := ?_, trow := ?_, tδ := ?_, tt := ?_, plt := ?_, olt := ?_ }⟩
  · intro id t cs hb
    obtain ⟨b, vs, e1, e2, e3, e4⟩ := h.blk id t cs hb
    exact ⟨b, vs, e1, e2.of (hold b (h.δlt e1)), e3.ext E, e4⟩
  · intro k b o e p
    rcases p with p | ⟨rfl, _⟩
    · exact h.δpr k b o e p
    · have := h.δlt e; omega
  · intro t v e1
    have e1 : tips'[t]? = some v := e1
    by_cases ht' : t = tk
    · subst ht'
      rw [ht.this] at e1
      cases e1
      exact ⟨i, by show (if _ then _ else _) = _; rw [if_pos rfl], by rw [← hi]⟩
    · rw [ht.other t ht'] at e1
      obtain ⟨j, e2, e3⟩ := h.tip t v e1
      exact ⟨j, by show (if _ then _ else _) = _; rw [if_neg ht']; exact e2, e3⟩
  · intro t j e1
    show t < tips'.length
    rcases tips t j e1 with ⟨rfl, _⟩ | ⟨_, e1⟩
    · exact ht.lt
    · have := h.tlen t j e1; have := ht.len; omega
  · intro t j e1
    rcases tips t j e1 with ⟨rfl, rfl⟩ | ⟨_, e1⟩
    · rw [is, iv, inn, ic]
      refine ⟨hl, .inr ⟨W.heap.size, 0, cap, rfl, Nat.zero_le _, by omega, hn, hm, fun k u hu => ?_, fun k h1 h2 => ?_⟩⟩
      · rw [Nat.zero_add, hbkc k]; exact hc k u hu
      · rw [Nat.zero_add, hbkc k, Array.getElem?_eq_getElem (by omega)]
        exact ⟨rfl, hbkf k (by omega)⟩
    · exact (h.row t j e1).kept (r := none) ⟨hW1.2.1, hW1.2.2.1, hW1.2.2.2, by omega, fun k hk _ => hold k hk⟩ (by cases j.v.ownBlock <;> simp)
  · intro t j b off n' cap' e1 ev
    rcases tips t j e1 with ⟨rfl, rfl⟩ | ⟨_, e1⟩
    · rw [iv] at ev
      simp only [Value.slice.injEq, Option.some.injEq, Addr.mk.injEq, and_true] at ev
      obtain ⟨⟨rfl, rfl⟩, rfl, rfl⟩ := ev
      refine ⟨rfl, .inr ⟨rfl, rfl⟩, fun o ho => .inr ⟨rfl, ho⟩, fun o ho p => ?_⟩
      rcases p with p | ⟨_, p⟩
      · have := h.plt _ _ p; omega
      · omega
    · obtain ⟨h1, h2, h3, h4⟩ := h.trow t j b off n' cap' e1 ev
      refine ⟨h1, .inl h2, fun o ho => .inl (h3 o ho), fun o ho p => ?_⟩
      rcases p with p | ⟨p, _⟩
      · exact h4 o ho p
      · have := h.olt b h2; omega
  · intro t j b e1 ev id e2
    have e2 : G.δ id = some b := e2
    rcases tips t j e1 with ⟨rfl, rfl⟩ | ⟨_, e1⟩
    · have := iow b ev; have := h.δlt e2; omega
    · exact h.tδ t j b e1 ev id e2
  · intro t t' j j' b e1 e2 ev ev'
    rcases tips t j e1 with ⟨rfl, rfl⟩ | ⟨_, f1⟩ <;> rcases tips t' j' e2 with ⟨rfl, rfl⟩ | ⟨_, f2⟩
    · rfl
    · have := iow b ev; have := ((h.row t' j' f2).lt b ev').2; omega
    · have := iow b ev'; have := ((h.row t j f1).lt b ev).2; omega
    · exact h.tt t t' j j' b f1 f2 ev ev'
  · intro b o p
    rcases p with p | ⟨p, _⟩
    · have := h.plt b o p; omega
    · omega
  · intro b o
    rcases o with o | ⟨_, o⟩
    · have := h.olt b o; omega
    · omega
/-- A new block that will not change. -/
def proG (G : Gh) (b : Nat) : Gh := { G with prot := fun k o => G.prot k o ∨ k = b, own := fun k => G.own k ∨ k = b }
theorem Inv.pro (h : Inv G H W) (C : Array Value) (e : TypeId) {W1 : World} (hW1 : W1.heap = W.heap ∧ W1.os = W.os ∧ W1.tape = W.tape ∧ W1.output = W.output) (fr : Nat × Nat) :
    Ext G W (proG G W.heap.size) (W1.alloc (.cells C e fr)) ∧ Inv (proG G W.heap.size) H (W1.alloc (.cells C e fr)) ∧ ∀ k, (W1.alloc (.cells C e fr)).cell? ⟨W.heap.size, k, none⟩ = C[k]? := by
  have hsz : (W1.alloc (.cells C e fr)).heap.size = W.heap.size + 1 := by show (W1.heap.push _).size = _; rw [hW1.1]; simp
  have hold : ∀ b, b < W.heap.size → (W1.alloc (.cells C e fr)).heap[b]? = W.heap[b]? := fun b hb => (Below.heap_alloc W1 _ b (by rw [hW1.1]; exact hb)).trans (by rw [hW1.1])
  have hcell : ∀ b o, b < W.heap.size → (W1.alloc (.cells C e fr)).cell? ⟨b, o, none⟩ = W.cell? ⟨b, o, none⟩ := fun b o hb => by simp only [World.cell?, hold b hb]
  have hat : (W1.alloc (.cells C e fr)).heap[W.heap.size]? = some (.cells C e fr) := by show (W1.heap.push _)[W.heap.size]? = _; rw [hW1.1]; simp
  have E : Ext G W (proG G W.heap.size) (W1.alloc (.cells C e fr)) :=
    { os := hW1.2.1, tape := hW1.2.2.1, output := hW1.2.2.2, size := by omega, δ := fun _ _ e => e, tip := fun _ i e => ⟨i, e, .inl rfl⟩, prot := fun _ _ p => .inl p, cell := fun b o p => hcell b o (h.plt b o p),
      own := fun _ o => .inl o, new := fun b hb o => by
        rcases o with o | o
        · exact o
        · omega
      block := fun b hb _ => hold b hb
      pnew := fun b q hb _ p => by
        rcases p with p | p
        · exact p
        · omega }
  refine ⟨E, { blk := ?_, inj := h.inj, δown := fun i b e => .inl (h.δown i b e), δpr := ?_, δlen := h.δlen, tip := h.tip, tlen := h.tlen, row := ?_, trow := ?_, tδ := h.tδ, tt := h.tt, plt := ?_, olt := ?_ }, fun k => by simp [World.cell?, hat]⟩
  · intro id t cs hb
    obtain ⟨b, vs, e1, e2, e3, e4⟩ := h.blk id t cs hb
    exact ⟨b, vs, e1, e2.of (hold b (h.δlt e1)), e3.ext E, e4⟩
  · intro i b o e p
    rcases p with p | rfl
    · exact h.δpr i b o e p
    · have := h.δlt e; omega
  · intro t i e
    exact (h.row t i e).kept (r := none) ⟨hW1.2.1, hW1.2.2.1, hW1.2.2.2, by omega, fun k hk _ => hold k hk⟩ (by cases i.v.ownBlock <;> simp)
  · intro t i b off n cap e ev
    obtain ⟨h1, h2, h3, h4⟩ := h.trow t i b off n cap e ev
    refine ⟨h1, .inl h2, fun o ho => .inl (h3 o ho), fun o ho p => ?_⟩
    rcases p with p | p
    · exact h4 o ho p
    · have := h.olt b h2; omega
  · intro b o p
    rcases p with p | p
    · have := h.plt b o p; omega
    · omega
  · intro b o
    rcases o with o | o
    · have := h.olt b o; omega
    · omega
/-- A row that holds nothing, and has no memory. -/
theorem Inv.tipNil (h : Inv G H W) {tk ver : Nat} {tips' : List Nat} (ht : TipsOn H G tk ver tips') (sz : Nat) :
    Ext G W (tipG G tk ⟨ver, sz, .slice none 0 0, 0, []⟩ 0 false) W ∧ Inv (tipG G tk ⟨ver, sz, .slice none 0 0, 0, []⟩ 0 false) { H with tips := tips' } W := by
  generalize hi : (⟨ver, sz, .slice none 0 0, 0, []⟩ : Info) = i
  have iv : i.v = .slice none 0 0 := by rw [← hi]
  have hn : i.n * i.sz = 0 := by rw [← hi]; simp
  have pr : ∀ k o, (tipG G tk i 0 false).prot k o → G.prot k o := fun k o p => by
    rcases p with p | ⟨_, p⟩
    · exact p
    · omega
  have ow : ∀ k, (tipG G tk i 0 false).own k → G.own k := fun k o => by
    rcases o with o | ⟨o, _⟩
    · exact o
    · cases o
  have tips : ∀ t j, (tipG G tk i 0 false).tip t = some j → (t = tk ∧ j = i) ∨ (t ≠ tk ∧ G.tip t = some j) := fun t j e => by
    have e : (if t = tk then some i else G.tip t) = some j := e
    split at e
    · rename_i ht'; exact .inl ⟨ht', (Option.some.inj e).symm⟩
    · rename_i ht'; exact .inr ⟨ht', e⟩
  have E : Ext G W (tipG G tk i 0 false) W :=
    { os := rfl, tape := rfl, output := rfl, size := Nat.le_refl _, δ := fun _ _ e => e
      tip := fun t j e => by
        by_cases ht' : t = tk
        · subst ht'
          exact ⟨i, by show (if _ then _ else _) = _; rw [if_pos rfl], .inr (by have := ht.up j e; rw [← hi]; exact this)⟩
        · exact ⟨j, by show (if _ then _ else _) = _; rw [if_neg ht']; exact e, .inl rfl⟩
      prot := fun _ _ p => .inl p, cell := fun _ _ _ => rfl, own := fun _ o => .inl o, new := fun b _ o => ow b o, block := fun _ _ _ => rfl, pnew := fun b o _ _ p => pr b o p }
  refine ⟨E, { blk := ?_, inj := h.inj, δown := fun k b e => .inl (h.δown k b e), δpr := fun k b o e p => h.δpr k b o e (pr _ _ p), δlen := h.δlen, tip := ?_, tlen := ?_, row := ?_, trow := ?_, tδ := ?_, tt := ?_, plt := fun b o p => h.plt b o (pr _ _ p), olt := fun b o => h.olt b (ow b o) }⟩
  · intro id t cs hb
    obtain ⟨k, vs, e1, e2, e3, e4⟩ := h.blk id t cs hb
    exact ⟨k, vs, e1, e2, e3.ext E, e4⟩
  · intro t v e1
    have e1 : tips'[t]? = some v := e1
    by_cases ht' : t = tk
    · subst ht'
      rw [ht.this] at e1
      cases e1
      exact ⟨i, by show (if _ then _ else _) = _; rw [if_pos rfl], by rw [← hi]⟩
    · rw [ht.other t ht'] at e1
      obtain ⟨j, e2, e3⟩ := h.tip t v e1
      exact ⟨j, by show (if _ then _ else _) = _; rw [if_neg ht']; exact e2, e3⟩
  · intro t j e1
    show t < tips'.length
    rcases tips t j e1 with ⟨rfl, _⟩ | ⟨_, f1⟩
    · exact ht.lt
    · have := h.tlen t j f1; have := ht.len; omega
  · intro t j e1
    rcases tips t j e1 with ⟨rfl, rfl⟩ | ⟨_, f1⟩
    · rw [← hi]; exact Row.nil _ _ _
    · exact h.row t j f1
  · intro t j b off n cap e1 ev
    rcases tips t j e1 with ⟨rfl, rfl⟩ | ⟨_, f1⟩
    · rw [iv] at ev; simp at ev
    · obtain ⟨h1, h2, h3, h4⟩ := h.trow t j b off n cap f1 ev
      exact ⟨h1, .inl h2, fun o ho => .inl (h3 o ho), fun o ho p => h4 o ho (pr _ _ p)⟩
  · intro t j b e1 ev id e2
    have e2 : G.δ id = some b := e2
    rcases tips t j e1 with ⟨rfl, rfl⟩ | ⟨_, f1⟩
    · rw [iv] at ev; simp [Value.ownBlock] at ev
    · exact h.tδ t j b f1 ev id e2
  · intro t t' j j' b e1 e2 ev ev'
    rcases tips t j e1 with ⟨rfl, rfl⟩ | ⟨_, f1⟩
    · rw [iv] at ev; simp [Value.ownBlock] at ev
    · rcases tips t' j' e2 with ⟨rfl, rfl⟩ | ⟨_, f2⟩
      · rw [iv] at ev'; simp [Value.ownBlock] at ev'
      · exact h.tt t t' j j' b f1 f2 ev ev'
/-- A row grows within its room. -/
theorem Inv.tipRoom (h : Inv G H W) {tk ver : Nat} {tips' : List Nat} (ht : TipsOn H G tk ver tips') {i0 : Info} (hi0 : G.tip tk = some i0) {b cap m : Nat} (hv0 : i0.v = .slice (some ⟨b, 0, none⟩) i0.n cap) {news : List Value} (hnl : news.length = m * i0.sz) (hroom : i0.n + m ≤ cap) :
    Ext G W (tipG G tk ⟨ver, i0.sz, .slice (some ⟨b, 0, none⟩) (i0.n + m) cap, i0.n + m, i0.cells ++ news⟩ b false) (W.setCells b (i0.n * i0.sz) news) ∧
    Inv (tipG G tk ⟨ver, i0.sz, .slice (some ⟨b, 0, none⟩) (i0.n + m) cap, i0.n + m, i0.cells ++ news⟩ b false) { H with tips := tips' } (W.setCells b (i0.n * i0.sz) news) := by
  obtain ⟨_, hown, hp1, hp2⟩ := h.trow tk i0 b 0 _ cap hi0 hv0
  have hrow := h.row tk i0 hi0
  have hne : ∀ k, k ≠ b → (W.setCells b (i0.n * i0.sz) news).heap[k]? = W.heap[k]? := fun k hk => setCells_heap b news _ W k hk
  have hsz := setCells_size b news (i0.n * i0.sz) W
  have hcell : ∀ k o, (k ≠ b ∨ o < i0.n * i0.sz) → (W.setCells b (i0.n * i0.sz) news).cell? ⟨k, o, none⟩ = W.cell? ⟨k, o, none⟩ := fun k o hk => by
    refine World.cell?_setCells_out b news _ W ⟨k, o, none⟩ (fun e _ => ?_)
    rcases hk with hk | hk
    · exact absurd e hk
    · exact .inl hk
  obtain ⟨o1, o2, o3⟩ := setCells_os b news (i0.n * i0.sz) W
  generalize hi : (⟨ver, i0.sz, .slice (some ⟨b, 0, none⟩) (i0.n + m) cap, i0.n + m, i0.cells ++ news⟩ : Info) = i
  have E : Ext G W (tipG G tk i b false) (W.setCells b (i0.n * i0.sz) news) :=
    { os := o1, tape := o2, output := o3, size := by omega, δ := fun _ _ e => e
      tip := fun t j e => by
        by_cases ht' : t = tk
        · subst ht'
          exact ⟨i, by show (if _ then _ else _) = _; rw [if_pos rfl], .inr (by have := ht.up j e; rw [← hi]; exact this)⟩
        · exact ⟨j, by show (if _ then _ else _) = _; rw [if_neg ht']; exact e, .inl rfl⟩
      prot := fun _ _ p => .inl p
      cell := fun k o p => hcell k o (by
        by_cases hk : k = b
        · subst hk
          exact .inr (Nat.lt_of_not_le (fun hle => hp2 o hle p))
        · exact .inl hk)
      own := fun _ o => .inl o
      new := fun k _ o => by
        rcases o with o | ⟨o, _⟩
        · exact o
        · cases o
      block := fun k _ ho => hne k (by rintro rfl; exact ho hown)
      pnew := fun k q _ ho p => by
        rcases p with p | ⟨rfl, _⟩
        · exact p
        · exact absurd hown ho }
  have tips : ∀ t j, (tipG G tk i b false).tip t = some j → (t = tk ∧ j = i) ∨ (t ≠ tk ∧ G.tip t = some j) := fun t j e => by
    have e : (if t = tk then some i else G.tip t) = some j := e
    split at e
    · rename_i ht'; exact .inl ⟨ht', (Option.some.inj e).symm⟩
    · rename_i ht'; exact .inr ⟨ht', e⟩
  have iv : i.v = .slice (some ⟨b, 0, none⟩) (i0.n + m) cap := by rw [← hi]
  have is : i.sz = i0.sz := by rw [← hi]
  have inn : i.n = i0.n + m := by rw [← hi]
  have ic : i.cells = i0.cells ++ news := by rw [← hi]
  have iow : ∀ k, i.v.ownBlock = some k → k = b := fun k hk => by rw [iv] at hk; simpa [Value.ownBlock] using hk.symm
  have i0ow : i0.v.ownBlock = some b := by rw [hv0]; rfl
  have hmul : (i0.n + m) * i0.sz = i0.n * i0.sz + m * i0.sz := Nat.add_mul _ _ _
  refine ⟨E, { blk := ?_, inj := h.inj, δown := fun k b e => .inl (h.δown k b e), δpr := ?_, δlen := h.δlen, tip := ?_, tlen := ?_, row := ?_, trow := ?_, tδ := ?_, tt := ?_, plt := ?_, olt := ?_ }⟩
  · intro id t cs hb
    obtain ⟨k, vs, e1, e2, e3, e4⟩ := h.blk id t cs hb
    exact ⟨k, vs, e1, e2.of (hne k (by rintro rfl; exact h.tδ tk i0 _ hi0 i0ow id e1)), e3.ext E, e4⟩
  · intro k c o e p
    rcases p with p | ⟨rfl, _⟩
    · exact h.δpr k c o e p
    · exact h.tδ tk i0 _ hi0 i0ow k e
  · intro t v e1
    have e1 : tips'[t]? = some v := e1
    by_cases ht' : t = tk
    · subst ht'
      rw [ht.this] at e1
      cases e1
      exact ⟨i, by show (if _ then _ else _) = _; rw [if_pos rfl], by rw [← hi]⟩
    · rw [ht.other t ht'] at e1
      obtain ⟨j, e2, e3⟩ := h.tip t v e1
      exact ⟨j, by show (if _ then _ else _) = _; rw [if_neg ht']; exact e2, e3⟩
  · intro t j e1
    show t < tips'.length
    rcases tips t j e1 with ⟨rfl, _⟩ | ⟨_, e1⟩
    · exact ht.lt
    · have := h.tlen t j e1; have := ht.len; omega
  · intro t j e1
    rcases tips t j e1 with ⟨rfl, rfl⟩ | ⟨ht', e1⟩
    · rw [is, iv, inn, ic]
      rcases hrow.val with ⟨e, _⟩ | ⟨g, off, cap', e, q1, q2, q3, q4, q5, q6⟩
      · rw [hv0] at e; simp at e
      · rw [hv0] at e
        simp only [Value.slice.injEq, Option.some.injEq, Addr.mk.injEq, and_true, true_and] at e
        obtain ⟨⟨rfl, rfl⟩, rfl⟩ := e
        refine ⟨by rw [List.length_append, hrow.len, hnl, hmul], .inr ⟨b, 0, cap, rfl, Nat.zero_le _, by omega, hroom, q4, fun k u hu => ?_, fun k k1 k2 => ?_⟩⟩
        · by_cases hk : k < i0.cells.length
          · rw [List.getElem?_append_left hk] at hu
            rw [Nat.zero_add, hcell b k (.inr (by rw [hrow.len] at hk; exact hk))]
            simpa using q5 k u hu
          · rw [List.getElem?_append_right (by omega)] at hu
            have hkn := (List.getElem?_eq_some_iff.1 hu).1
            have hle : (i0.n + m) * i0.sz ≤ cap * i0.sz := Nat.mul_le_mul_right _ hroom
            have := World.cell?_setCells_in b news (i0.n * i0.sz) W (fun x hx => by simpa using (q6 (i0.n * i0.sz + x) (by omega) (by omega)).1) (k - i0.cells.length) hkn
            rw [Nat.zero_add]
            rw [show i0.n * i0.sz + (k - i0.cells.length) = k by rw [hrow.len] at hk ⊢; omega] at this
            rw [this, ← (List.getElem?_eq_some_iff.1 hu).2]
        · have := q6 k (by omega) k2
          rw [Nat.zero_add] at this ⊢
          rw [World.frozen?_setCells, World.cell?_setCells_out b news _ W ⟨b, k, none⟩ (fun _ _ => .inr (by show _ ≤ k; omega))]
          exact this
    · refine (h.row t j e1).kept (r := some b) ⟨o1, o2, o3, by omega, fun k _ hk => hne k (fun e => hk (by rw [e]))⟩ ?_
      right
      intro e2
      exact ht' (h.tt t tk j i0 b e1 hi0 e2 i0ow)
  · intro t j c off n' cap' e1 ev
    rcases tips t j e1 with ⟨rfl, rfl⟩ | ⟨ht', f1⟩
    · rw [iv] at ev
      simp only [Value.slice.injEq, Option.some.injEq, Addr.mk.injEq, and_true] at ev
      obtain ⟨⟨rfl, rfl⟩, rfl, rfl⟩ := ev
      refine ⟨rfl, .inl hown, fun o ho => .inr ⟨rfl, ho⟩, fun o ho p => ?_⟩
      rw [inn, is] at ho
      rcases p with p | ⟨_, p⟩
      · exact hp2 o (by omega) p
      · rw [inn, is] at p; omega
    · obtain ⟨h1, h2, h3, h4⟩ := h.trow t j c off n' cap' f1 ev
      refine ⟨h1, .inl h2, fun o ho => .inl (h3 o ho), fun o ho p => ?_⟩
      rcases p with p | ⟨p, _⟩
      · exact h4 o ho p
      · subst p
        exact ht' (h.tt t tk j i0 c f1 hi0 (by rw [ev]; rfl) i0ow)
  · intro t j c e1 ev id e2
    have e2 : G.δ id = some c := e2
    rcases tips t j e1 with ⟨rfl, rfl⟩ | ⟨_, e1⟩
    · rw [iow c ev] at e2; exact h.tδ _ i0 b hi0 i0ow id e2
    · exact h.tδ t j c e1 ev id e2
  · intro t t' j j' c e1 e2 ev ev'
    rcases tips t j e1 with ⟨rfl, rfl⟩ | ⟨_, f1⟩ <;> rcases tips t' j' e2 with ⟨rfl, rfl⟩ | ⟨_, f2⟩
    · rfl
    · rw [iow c ev] at ev'; exact h.tt _ _ _ _ b hi0 f2 i0ow ev'
    · rw [iow c ev'] at ev; exact h.tt _ _ _ _ b f1 hi0 ev i0ow
    · exact h.tt t t' j j' c f1 f2 ev ev'
  · intro c o p
    rcases p with p | ⟨rfl, _⟩
    · have := h.plt c o p; omega
    · have := h.olt c hown; omega
  · intro c o
    rcases o with o | ⟨o, _⟩
    · have := h.olt c o; omega
    · cases o
end
end Go.Proofs.Ytdijakobocnceaa.AE
