/-
  What is known otherwise of a function of some blocks of the run's own (an object, with what hangs on it), told over these blocks alone.
-/
import Derived.Test.YtdijakobocnceaaAEForget
import Derived.Test.YtdijakobocnceaaAEList
namespace Go.Proofs.Ytdijakobocnceaa.AE
set_option maxRecDepth 100000
open Go.RowKit
mutual
/-- The value with other numbers of blocks, without rows that may grow. -/
def mapI (f : Nat → Option Nat) : AV → Option AV
  | .v x => some (.v x)
  | .ptr id o => match f id with
    | some j => some (.ptr j o)
    | none => none
  | .pi id o => match f id with
    | some j => some (.pi j o)
    | none => none
  | .sl id o l c => match f id with
    | some j => some (.sl j o l c)
    | none => none
  | .mp id => match f id with
    | some j => some (.mp j)
    | none => none
  | .dead => some .dead
  | .lp cells => some (.lp cells)
  | .lst sz xs tip => some (.lst sz xs (tipClean tip))
  | .agg cells => match mapIs f cells with
    | some l => some (.agg l)
    | none => none
  | .tuple vs => match mapIs f vs with
    | some l => some (.tuple l)
    | none => none
  | .fn g a b => match mapIs f a with
    | some x => match mapIs f b with
      | some y => some (.fn g x y)
      | none => none
    | none => none
def mapIs (f : Nat → Option Nat) : List AV → Option (List AV)
  | [] => some []
  | x :: l => match mapI f x with
    | some y => match mapIs f l with
      | some r => some (y :: r)
      | none => none
    | none => none
end
theorem mapIs_cons {f : Nat → Option Nat} {x : AV} {l r : List AV} (h : mapIs f (x :: l) = some r) : ∃ y q, mapI f x = some y ∧ mapIs f l = some q ∧ r = y :: q := by
  simp only [mapIs] at h
  split at h
  · rename_i y hy
    split at h
    · rename_i q hq
      cases h; exact ⟨y, q, hy, hq, rfl⟩
    · cases h
  · cases h
theorem mapI_rel {G G2 : Gh} {W : World} {f : Nat → Option Nat} (hf : ∀ i j b, f i = some j → G.δ i = some b → G2.δ j = some b) (hp : ∀ b o, G.prot b o → G2.prot b o) {x : AV} {c : Value} (h : RV G W x c) : ∀ y, mapI f x = some y → RV G2 W y c := by
  refine RV.rec (motive_1 := fun x c _ => ∀ y, mapI f x = some y → RV G2 W y c) (motive_2 := fun l cs _ => ∀ q, mapIs f l = some q → RVs G2 W q cs) ?_ ?_ ?_ ?_ ?_ ?_ ?_ ?_ ?_ ?_ ?_ ?_ ?_ h
  · intro x y h; simp only [mapI, Option.some.injEq] at h; subst h; exact .v _
  · intro id off b hd y h
    simp only [mapI] at h
    split at h
    · rename_i j hj; cases h; exact .ptr (hf _ _ _ hj hd)
    · cases h
  · intro id off b hd y h
    simp only [mapI] at h
    split at h
    · rename_i j hj; cases h; exact .pi (hf _ _ _ hj hd)
    · cases h
  · intro cells b off cs hr hm y h
    simp only [mapI, Option.some.injEq] at h
    subst h
    exact .lp (hr.mono hp) (hm.mono hp)
  · intro sz xs tip a n cap cs hn hr hs hm hc hx ht y h
    simp only [mapI, Option.some.injEq] at h
    subst h
    refine .lst hn (hr.mono hp) hs (hm.mono hp) hc hx ?_
    cases tip with
    | exact => exact ht
    | _ => trivial
  · intro id off len cap b hd y h
    simp only [mapI] at h
    split at h
    · rename_i j hj; cases h; exact .sl (hf _ _ _ hj hd)
    · cases h
  · intro cells cs hr ih y h
    simp only [mapI] at h
    split at h
    · rename_i l hl; cases h; exact .agg (ih l hl)
    · cases h
  · intro cells cs hr ih y h
    simp only [mapI] at h
    split at h
    · rename_i l hl; cases h; exact .tuple (ih l hl)
    · cases h
  · intro g a b x y h1 h2 i1 i2 z h
    simp only [mapI] at h
    split at h
    · rename_i p hp
      split at h
      · rename_i q hq; cases h; exact .fn (i1 p hp) (i2 q hq)
      · cases h
    · cases h
  · intro id b hd y h
    simp only [mapI] at h
    split at h
    · rename_i j hj; cases h; exact .mp (hf _ _ _ hj hd)
    · cases h
  · intro c y h; simp only [mapI, Option.some.injEq] at h; subst h; exact .dead _
  · intro q h; simp only [mapIs, Option.some.injEq] at h; subst h; exact .nil
  · intro x c l cs hx hl i1 i2 q h
    obtain ⟨y, q', h1, h2, rfl⟩ := mapIs_cons h
    exact .cons (i1 y h1) (i2 q' h2)
theorem mapIs_rel {G G2 : Gh} {W : World} {f : Nat → Option Nat} (hf : ∀ i j b, f i = some j → G.δ i = some b → G2.δ j = some b) (hp : ∀ b o, G.prot b o → G2.prot b o) : ∀ {l : List AV} {cs : List Value}, RVs G W l cs → ∀ q, mapIs f l = some q → RVs G2 W q cs
  | [], _, h, q, hq => by cases h; simp only [mapIs, Option.some.injEq] at hq; subst hq; exact .nil
  | x :: l, _, h, q, hq => by
    cases h with
    | cons h t =>
      obtain ⟨y, q', h1, h2, rfl⟩ := mapIs_cons hq
      exact .cons (mapI_rel hf hp h y h1) (mapIs_rel hf hp t q' h2)
/-- A value that holds no block of the run's own. -/
def isP (x : AV) : Bool := match x with
  | .v _ => true
  | .lp _ => true
  | _ => false
theorem mapIs_P {f : Nat → Option Nat} : ∀ {l : List AV}, l.all isP = true → mapIs f l = some l
  | [], _ => rfl
  | x :: l, h => by
    rw [List.all_cons, Bool.and_eq_true] at h
    have h1 : mapI f x = some x := by
      cases x with
      | v u => rfl
      | lp cs => rfl
      | _ => exact absurd h.1 (by simp [isP])
    simp only [mapIs, h1, mapIs_P h.2]
/-- A block's cells with other numbers: plain cells as they are. -/
def MapB (f : Nat → Option Nat) (cs cs' : List AV) : Prop := (cs' = cs ∧ cs.all isP = true) ∨ mapIs f cs = some cs'
theorem MapB.rel {G G2 : Gh} {W : World} {f : Nat → Option Nat} (hf : ∀ i j b, f i = some j → G.δ i = some b → G2.δ j = some b) (hp : ∀ b o, G.prot b o → G2.prot b o) {l q : List AV} {cs : List Value} (h : RVs G W l cs) (hq : MapB f l q) : RVs G2 W q cs := by
  rcases hq with ⟨rfl, hv⟩ | hq
  · exact mapIs_rel hf hp h _ (mapIs_P hv)
  · exact mapIs_rel hf hp h q hq
def idxI : List Nat → Nat → Option Nat
  | [], _ => none
  | x :: l, id => match Nat.beq x id with
    | true => some 0
    | false => match idxI l id with
      | some i => some (i + 1)
      | none => none
theorem idxI_some : ∀ {ids : List Nat} {id i : Nat}, idxI ids id = some i → ids[i]? = some id
  | [], _, _, h => by cases h
  | x :: l, id, i, h => by
    unfold idxI at h
    split at h
    · rename_i hb; cases h; rw [Nat.eq_of_beq_eq_true hb]; rfl
    · split at h
      · rename_i j hj; cases h; rw [List.getElem?_cons_succ]; exact idxI_some hj
      · cases h
/-- The number of a small run's block in the big one: n0 blocks are there, m are new. -/
def bigI (n0 : Nat) (ids : List Nat) (m : Nat) (i : Nat) : Option Nat := match ids[i]? with
  | some id => some id
  | none => match decide (i < ids.length + m) with
    | true => some (n0 + (i - ids.length))
    | false => none
def putAll : List (TypeId × List AV) → List Nat → List (TypeId × List AV) → List (TypeId × List AV)
  | bs, id :: ids, b :: l => putAll (bs.set id b) ids l
  | bs, [], l => bs ++ l
  | bs, _ :: _, [] => bs
theorem putAll_len : ∀ (bs : List (TypeId × List AV)) (ids : List Nat) (l : List (TypeId × List AV)), ids.length ≤ l.length → (putAll bs ids l).length = bs.length + (l.length - ids.length)
  | bs, [], l, _ => by simp [putAll]
  | bs, id :: ids, [], h => by simp at h
  | bs, id :: ids, b :: l, h => by
    rw [putAll, putAll_len _ ids l (by simpa using h)]
    simp
theorem putAll_other : ∀ (bs : List (TypeId × List AV)) (ids : List Nat) (l : List (TypeId × List AV)) (k : Nat), ids.length ≤ l.length → k < bs.length → k ∉ ids → (putAll bs ids l)[k]? = bs[k]?
  | bs, [], l, k, _, hk, _ => by rw [putAll]; exact List.getElem?_append_left hk
  | bs, id :: ids, [], k, h, _, _ => by simp at h
  | bs, id :: ids, b :: l, k, h, hk, hn => by
    rw [putAll, putAll_other _ ids l k (by simpa using h) (by simpa using hk) (fun hm => hn (List.mem_cons_of_mem _ hm))]
    exact List.getElem?_set_ne (fun e => hn (by rw [e]; exact List.mem_cons_self ..))
theorem putAll_new : ∀ (bs : List (TypeId × List AV)) (ids : List Nat) (l : List (TypeId × List AV)) (j : Nat), ids.length ≤ l.length → (putAll bs ids l)[bs.length + j]? = l[ids.length + j]?
  | bs, [], l, j, _ => by rw [putAll, List.getElem?_append_right (by omega)]; simp
  | bs, id :: ids, [], j, h => by simp at h
  | bs, id :: ids, b :: l, j, h => by
    have := putAll_new (bs.set id b) ids l j (by simpa using h)
    rw [List.length_set] at this
    rw [putAll, this, List.length_cons, Nat.add_right_comm]
    simp
theorem putAll_this : ∀ (bs : List (TypeId × List AV)) (ids : List Nat) (l : List (TypeId × List AV)) (i id : Nat), ids.length ≤ l.length → ids.Nodup → (∀ k ∈ ids, k < bs.length) → ids[i]? = some id → (putAll bs ids l)[id]? = l[i]?
  | bs, [], l, i, id, _, _, _, h => by simp at h
  | bs, x :: ids, [], i, id, h, _, _, _ => by simp at h
  | bs, x :: ids, b :: l, i, id, h, hn, hb, hi => by
    rw [putAll]
    cases i with
    | zero =>
      simp at hi
      subst hi
      have hx := hb x (List.mem_cons_self ..)
      rw [putAll_other _ ids l x (by simpa using h) (by simpa using hx) (List.nodup_cons.1 hn).1, List.getElem?_set_self hx]
      rfl
    | succ i =>
      exact putAll_this _ ids l i id (by simpa using h) (List.nodup_cons.1 hn).2 (fun k hk => by rw [List.length_set]; exact hb k (List.mem_cons_of_mem _ hk)) (by simpa using hi)
/-- What a call with these blocks sees. -/
def dI (ids : List Nat) (G : Gh) (i : Nat) : Option Nat := match ids[i]? with
  | some id => G.δ id
  | none => none
def objG (ids : List Nat) (G : Gh) : Gh := { δ := dI ids G, tip := fun _ => none, prot := G.prot, own := fun b => ∃ id, id ∈ ids ∧ G.δ id = some b }
section
variable {G G1 : Gh} {H H1 : AH} {W W' : World} {ids : List Nat}
theorem objG_δ {i b : Nat} (h : (objG ids G).δ i = some b) : ∃ id, ids[i]? = some id ∧ G.δ id = some b := by
  have h : (match ids[i]? with | some id => G.δ id | none => none) = some b := h
  split at h
  · rename_i id hid; exact ⟨id, hid, h⟩
  · cases h
theorem objG_to {i id b : Nat} (hi : ids[i]? = some id) (h : G.δ id = some b) : (objG ids G).δ i = some b := by
  show (match ids[i]? with | some id => G.δ id | none => none) = some b
  rw [hi]; exact h
theorem idx_inj : ∀ {ids : List Nat}, ids.Nodup → ∀ {i j id : Nat}, ids[i]? = some id → ids[j]? = some id → i = j
  | [], _, i, j, id, hi, _ => by simp at hi
  | x :: l, hn, 0, 0, id, _, _ => rfl
  | x :: l, hn, 0, j + 1, id, hi, hj => by
    simp at hi hj
    subst hi
    exact absurd (List.mem_of_getElem? hj) (List.nodup_cons.1 hn).1
  | x :: l, hn, i + 1, 0, id, hi, hj => by
    simp at hi hj
    subst hj
    exact absurd (List.mem_of_getElem? hi) (List.nodup_cons.1 hn).1
  | x :: l, hn, i + 1, j + 1, id, hi, hj => by
    exact congrArg (· + 1) (idx_inj (List.nodup_cons.1 hn).2 (i := i) (j := j) (id := id) (by simpa using hi) (by simpa using hj))
theorem Inv.objIn (h : Inv G H W) (hn : ids.Nodup) {bl : List (TypeId × List AV)} (hlen : bl.length = ids.length) (hb : ∀ (i id : Nat), ids[i]? = some id → ∃ (t : TypeId) (cs cs' : List AV), H.blks[id]? = some (t, cs) ∧ bl[i]? = some (t, cs') ∧ MapB (idxI ids) cs cs') : Inv (objG ids G) (hp bl []) W where
  blk := fun i t cs hi => by
    have hi : bl[i]? = some (t, cs) := hi
    have hlt : i < ids.length := by rw [← hlen]; exact (List.getElem?_eq_some_iff.1 hi).1
    obtain ⟨t', cs0, cs', k1, k2, k3⟩ := hb i ids[i] (List.getElem?_eq_getElem hlt)
    rw [hi] at k2
    cases k2
    obtain ⟨b, vs, e1, e2, e3, e4⟩ := h.blk _ _ _ k1
    exact ⟨b, vs, objG_to (List.getElem?_eq_getElem hlt) e1, e2, k3.rel (fun i j b hij hd => objG_to (idxI_some hij) hd) (fun _ _ p => p) e3, e4⟩
  inj := fun i j b hi hj => by
    obtain ⟨x, hx, hx2⟩ := objG_δ hi
    obtain ⟨y, hy, hy2⟩ := objG_δ hj
    have := h.inj _ _ _ hx2 hy2
    subst this
    exact idx_inj hn hx hy
  δown := fun i b hi => by
    obtain ⟨x, hx, hx2⟩ := objG_δ hi
    exact ⟨x, List.mem_of_getElem? hx, hx2⟩
  δpr := fun i b o hi p => by
    obtain ⟨x, hx, hx2⟩ := objG_δ hi
    exact h.δpr x b o hx2 p
  δlen := fun i b hi => by
    obtain ⟨x, hx, hx2⟩ := objG_δ hi
    show i < bl.length
    rw [hlen]
    exact (List.getElem?_eq_some_iff.1 hx).1
  tip := fun t v h => by simp [hp] at h
  tlen := fun t i h => by cases h
  row := fun t i h => by cases h
  trow := fun t i b off n cap h => by cases h
  tδ := fun t i b h => by cases h
  tt := fun t t' i i' b h => by cases h
  plt := h.plt
  olt := fun b ⟨x, _, hx⟩ => h.δlt hx
theorem ro_obj {ro : Nat → Option (List Value)} (h : Ro ro G W) (hI : Inv G H W) : Ro ro (objG ids G) W := fun b cs hb => ⟨(h b cs hb).1, fun ⟨x, _, hx⟩ => (h b cs hb).2.1 (hI.δown x b hx), (h b cs hb).2.2⟩
/-- Behind the call: the blocks as they are now, and m new ones. -/
theorem Inv.objOut (h : Inv G H W) (hn : ids.Nodup) (hin : ∀ id ∈ ids, ∃ x, H.blks[id]? = some x) (e : Ext (objG ids G) W G1 W') (h1 : Inv G1 H1 W') {bl : List (TypeId × List AV)} (hlen : ids.length ≤ bl.length)
    (hb : ∀ (i : Nat) (x : TypeId × List AV), bl[i]? = some x → ∃ cs, H1.blks[i]? = some (x.1, cs) ∧ MapB (bigI H.blks.length ids (bl.length - ids.length)) cs x.2) :
    ∃ G', Ext G W G' W' ∧ Inv G' { H with blks := putAll H.blks ids bl } W' ∧ ∀ x y c, mapI (bigI H.blks.length ids (bl.length - ids.length)) x = some y → RV G1 W' x c → RV G' W' y c := by
  have hδ1 : ∀ i id b, ids[i]? = some id → G.δ id = some b → G1.δ i = some b := fun i id b hi hd => e.δ i b (objG_to hi hd)
  have hdef : ∀ id ∈ ids, ∃ b, G.δ id = some b := fun id hid => by
    obtain ⟨x, hx⟩ := hin id hid
    obtain ⟨b, vs, e1, _⟩ := h.blk id x.1 x.2 hx
    exact ⟨b, e1⟩
  have hlt : ∀ id ∈ ids, id < H.blks.length := fun id hid => by
    obtain ⟨x, hx⟩ := hin id hid
    exact (List.getElem?_eq_some_iff.1 hx).1
  have hnew : ∀ i b, ids.length ≤ i → G1.δ i = some b → W.heap.size ≤ b := fun i b hi hd => by
    rcases Nat.lt_or_ge b W.heap.size with hb | hb
    · obtain ⟨id, hid, hd2⟩ := e.new b hb (h1.δown i b hd)
      obtain ⟨j, hj⟩ := List.getElem?_of_mem hid
      have := h1.inj _ _ _ hd (hδ1 j id b hj hd2)
      have := (List.getElem?_eq_some_iff.1 hj).1
      omega
    · exact hb
  have hsame : ∀ b, b < W.heap.size → (∀ id ∈ ids, G.δ id ≠ some b) → W'.heap[b]? = W.heap[b]? := fun b hb hne => e.block b hb (fun ⟨id, hid, hd⟩ => hne id hid hd)
  have hpo : ∀ b o, b < W.heap.size → G1.prot b o → G.prot b o := fun b o hb p => by
    by_cases ho : (objG ids G).own b
    · obtain ⟨id, hid, hd⟩ := ho
      obtain ⟨j, hj⟩ := List.getElem?_of_mem hid
      exact absurd p (h1.δpr j b o (hδ1 j id b hj hd))
    · exact e.pnew b o hb ho p
  let n0 := H.blks.length
  let m := bl.length - ids.length
  let G' : Gh := { δ := fun i => if i < n0 then G.δ i else if i < n0 + m then G1.δ (ids.length + (i - n0)) else none, tip := G.tip, prot := fun b o => G.prot b o ∨ G1.prot b o, own := fun b => G.own b ∨ ∃ i, ids.length ≤ i ∧ G1.δ i = some b }
  have gδ : ∀ i b, G'.δ i = some b → (i < n0 ∧ G.δ i = some b) ∨ (n0 ≤ i ∧ i < n0 + m ∧ G1.δ (ids.length + (i - n0)) = some b) := fun i b hd => by
    have hd : (if i < n0 then G.δ i else if i < n0 + m then G1.δ (ids.length + (i - n0)) else none) = some b := hd
    split at hd
    · exact .inl ⟨by assumption, hd⟩
    · split at hd
      · exact .inr ⟨by omega, by assumption, hd⟩
      · cases hd
  have gold : ∀ i b, G.δ i = some b → G'.δ i = some b := fun i b hd => by
    have := h.δlen i b hd
    show (if i < n0 then G.δ i else _) = some b
    rw [if_pos this]; exact hd
  have gnew : ∀ i b, n0 ≤ i → i < n0 + m → G1.δ (ids.length + (i - n0)) = some b → G'.δ i = some b := fun i b h1 h2 hd => by
    show (if i < n0 then G.δ i else if i < n0 + m then G1.δ (ids.length + (i - n0)) else none) = some b
    rw [if_neg (by omega), if_pos h2]; exact hd
  have hf : ∀ i j b, bigI n0 ids m i = some j → G1.δ i = some b → G'.δ j = some b := fun i j b hij hd => by
    unfold bigI at hij
    split at hij
    · rename_i id hid
      cases hij
      obtain ⟨b0, hb0⟩ := hdef _ (List.mem_of_getElem? hid)
      have := hδ1 i _ b0 hid hb0
      rw [hd] at this
      cases this
      exact gold _ _ hb0
    · rename_i hid
      split at hij
      · rename_i hlt2
        have hlt2 := of_decide_eq_true hlt2
        cases hij
        have hge : ids.length ≤ i := List.getElem?_eq_none_iff.1 hid
        refine gnew _ _ (by omega) (by omega) ?_
        rw [show ids.length + (n0 + (i - ids.length) - n0) = i by omega]
        exact hd
      · cases hij
  have E : Ext G W G' W' :=
    { os := e.os, tape := e.tape, output := e.output, size := e.size, δ := gold, tip := fun _ i h => ⟨i, h, .inl rfl⟩, prot := fun _ _ p => .inl p, cell := e.cell, own := fun _ o => .inl o
      new := fun b hb o => by
        rcases o with o | ⟨i, hi, hd⟩
        · exact o
        · have := hnew i b hi hd; omega
      block := fun b hb ho => hsame b hb (fun id hid hd => ho (h.δown id b hd))
      pnew := fun b o hb _ p => by
        rcases p with p | p
        · exact p
        · exact hpo b o hb p }
  have hplen : (putAll H.blks ids bl).length = n0 + m := putAll_len _ _ _ hlen
  refine ⟨G', E, Inv.mk ?_ ?_ ?_ ?_ ?_ h.tip h.tlen ?_ ?_ ?_ h.tt ?_ ?_, fun x y c hm hr => mapI_rel hf (fun _ _ p => .inr p) hr y hm⟩
  · intro id t cs hbk
    have hbk : (putAll H.blks ids bl)[id]? = some (t, cs) := hbk
    by_cases hid : id ∈ ids
    · obtain ⟨i, hi⟩ := List.getElem?_of_mem hid
      rw [putAll_this _ _ _ i id hlen hn hlt hi] at hbk
      obtain ⟨cs1, k1, k2⟩ := hb i _ hbk
      obtain ⟨b, vs, e1, e2, e3, e4⟩ := h1.blk i _ _ k1
      obtain ⟨b0, hb0⟩ := hdef id hid
      have := hδ1 i id b0 hi hb0
      rw [e1] at this
      cases this
      exact ⟨b, vs, gold _ _ hb0, e2, k2.rel hf (fun _ _ p => .inr p) e3, e4⟩
    · by_cases hl : id < H.blks.length
      · rw [putAll_other _ _ _ id hlen hl hid] at hbk
        obtain ⟨b, vs, e1, e2, e3, e4⟩ := h.blk id t cs hbk
        exact ⟨b, vs, gold _ _ e1, e2.of (hsame b (h.δlt e1) (fun j hj hd => hid (by rw [h.inj _ _ _ e1 hd]; exact hj))), e3.ext E, e4⟩
      · obtain ⟨j, rfl⟩ : ∃ j, id = H.blks.length + j := ⟨id - H.blks.length, by omega⟩
        rw [putAll_new _ _ _ j hlen] at hbk
        obtain ⟨cs1, k1, k2⟩ := hb _ _ hbk
        obtain ⟨b, vs, e1, e2, e3, e4⟩ := h1.blk _ _ _ k1
        have hj := (List.getElem?_eq_some_iff.1 hbk).1
        refine ⟨b, vs, gnew _ _ (Nat.le_add_right _ _) (by show n0 + j < n0 + (bl.length - ids.length); omega) ?_, e2, k2.rel hf (fun _ _ p => .inr p) e3, e4⟩
        rw [show ids.length + (H.blks.length + j - n0) = ids.length + j by show ids.length + (H.blks.length + j - H.blks.length) = _; omega]
        exact e1
  · intro i j b hi hj
    rcases gδ i b hi with ⟨a1, a2⟩ | ⟨a1, a2, a3⟩ <;> rcases gδ j b hj with ⟨c1, c2⟩ | ⟨c1, c2, c3⟩
    · exact h.inj _ _ _ a2 c2
    · have := hnew _ _ (by omega) c3; have := h.δlt a2; omega
    · have := hnew _ _ (by omega) a3; have := h.δlt c2; omega
    · have := h1.inj _ _ _ a3 c3; omega
  · intro i b hi
    rcases gδ i b hi with ⟨a1, a2⟩ | ⟨a1, a2, a3⟩
    · exact .inl (h.δown i b a2)
    · exact .inr ⟨_, by omega, a3⟩
  · intro i b o hi p
    rcases gδ i b hi with ⟨a1, a2⟩ | ⟨a1, a2, a3⟩
    · rcases p with p | p
      · exact h.δpr i b o a2 p
      · exact h.δpr i b o a2 (hpo b o (h.δlt a2) p)
    · rcases p with p | p
      · have := hnew _ _ (by omega) a3; have := h.plt b o p; omega
      · exact h1.δpr _ b o a3 p
  · intro i b hi
    show i < (putAll H.blks ids bl).length
    rw [hplen]
    rcases gδ i b hi with ⟨a1, a2⟩ | ⟨a1, a2, a3⟩ <;> omega
  · intro t i hi
    have hr := h.row t i hi
    refine ⟨hr.len, ?_⟩
    rcases hr.val with h0 | ⟨g, off, cap, q1, q2, q3, q4, q5, q6, q7⟩
    · exact .inl h0
    · have hown : i.v.ownBlock = some g := by rw [q1]; rfl
      have hg := hsame g q3 (fun id _ hd => h.tδ t i g hi hown id hd)
      refine .inr ⟨g, off, cap, q1, q2, Nat.lt_of_lt_of_le q3 e.size, q4, q5, fun j u hu => ?_, fun j k1 k2 => ?_⟩
      · rw [cell_heap hg]; exact q6 j u hu
      · have := q7 j k1 k2
        rw [cell_heap hg]
        refine ⟨this.1, ?_⟩
        have h2 := this.2
        simp only [World.frozen?, hg] at h2 ⊢
        exact h2
  · intro t i b off n cap hi hv
    obtain ⟨x1, x2, x3, x4⟩ := h.trow t i b off n cap hi hv
    exact ⟨x1, .inl x2, fun o ho => .inl (x3 o ho), fun o ho p => by
      rcases p with p | p
      · exact x4 o ho p
      · exact x4 o ho (hpo b o (h.olt b x2) p)⟩
  · intro t i b hi hv id hd
    rcases gδ id b hd with ⟨a1, a2⟩ | ⟨a1, a2, a3⟩
    · exact h.tδ t i b hi hv id a2
    · have := hnew _ _ (by omega) a3
      have := ((h.row t i hi).lt b hv).2
      omega
  · intro b o p
    rcases p with p | p
    · exact Nat.lt_of_lt_of_le (h.plt b o p) e.size
    · exact h1.plt b o p
  · intro b o
    rcases o with o | ⟨i, hi, hd⟩
    · exact Nat.lt_of_lt_of_le (h.olt b o) e.size
    · exact h1.δlt hd
end
/-! What is known otherwise of a function of such blocks. -/
def pickB (H : AH) : List Nat → Option (List (TypeId × List AV))
  | [] => some []
  | id :: ids => match H.blks[id]? with
    | some b => match pickB H ids with
      | some r => some (b :: r)
      | none => none
    | none => none
theorem pickB_get {H : AH} : ∀ {ids : List Nat} {bl : List (TypeId × List AV)}, pickB H ids = some bl → bl.length = ids.length ∧ ∀ (i id : Nat), ids[i]? = some id → ∃ b : TypeId × List AV, H.blks[id]? = some b ∧ bl[i]? = some b
  | [], bl, h => by cases h; exact ⟨rfl, fun i id hi => by simp at hi⟩
  | x :: ids, bl, h => by
    unfold pickB at h
    split at h
    · rename_i b hb
      split at h
      · rename_i r hr
        cases h
        obtain ⟨h1, h2⟩ := pickB_get hr
        refine ⟨by simp [h1], fun i id hi => ?_⟩
        cases i with
        | zero => simp at hi; subst hi; exact ⟨b, hb, rfl⟩
        | succ i => simpa using h2 i id (by simpa using hi)
      · cases h
    · cases h
def nodupB : List Nat → Bool
  | [] => true
  | x :: l => !(l.any (Nat.beq x)) && nodupB l
theorem nodupB_ok : ∀ {l : List Nat}, nodupB l = true → l.Nodup
  | [], _ => .nil
  | x :: l, h => by
    unfold nodupB at h
    rw [Bool.and_eq_true] at h
    refine List.nodup_cons.2 ⟨fun hm => ?_, nodupB_ok h.2⟩
    have h1 : (l.any (Nat.beq x)) = false := by simpa using h.1
    rw [List.any_eq_false] at h1
    exact h1 x hm (Nat.beq_refl x)
/-- Cells that are plain values. -/
def plainC (cs : List AV) : Bool := cs.all isP
/-- Blocks with other numbers; those of the mask are plain, and stay as they are, where that is so. -/
def mapM (f : Nat → Option Nat) : List Bool → List (TypeId × List AV) → Option (List (TypeId × List AV) × Bool)
  | [], [] => some ([], true)
  | p :: ms, b :: bs => match p with
    | true => match mapM f ms bs with
      | some r => some (b :: r.1, plainC b.2 && r.2)
      | none => none
    | false => match mapIs f b.2 with
      | some c => match mapM f ms bs with
        | some r => some ((b.1, c) :: r.1, r.2)
        | none => none
      | none => none
  | _, _ => none
theorem mapM_ok {f : Nat → Option Nat} : ∀ {ms : List Bool} {bs r : List (TypeId × List AV)}, mapM f ms bs = some (r, true) → r.length = bs.length ∧ (∀ (i : Nat) (x : TypeId × List AV), bs[i]? = some x → ∃ cs', r[i]? = some (x.1, cs') ∧ MapB f x.2 cs') ∧ ∀ (i : Nat) (x : TypeId × List AV), r[i]? = some x → ∃ cs, bs[i]? = some (x.1, cs) ∧ MapB f cs x.2
  | [], [], r, h => by cases h; exact ⟨rfl, fun i x hx => by simp at hx, fun i x hx => by simp at hx⟩
  | p :: ms, b :: bs, r, h => by
    unfold mapM at h
    split at h
    · split at h
      · rename_i q hq
        obtain ⟨q1, q2⟩ := q
        simp only [Option.some.injEq, Prod.mk.injEq, Bool.and_eq_true] at h
        obtain ⟨rfl, h1, rfl⟩ := h
        obtain ⟨k1, k2, k3⟩ := mapM_ok hq
        refine ⟨by simp [k1], fun i x hx => ?_, fun i x hx => ?_⟩
        · cases i with
          | zero => simp at hx; subst hx; exact ⟨_, rfl, .inl ⟨rfl, h1⟩⟩
          | succ i => simpa using k2 i x (by simpa using hx)
        · cases i with
          | zero => simp at hx; subst hx; exact ⟨_, rfl, .inl ⟨rfl, h1⟩⟩
          | succ i => simpa using k3 i x (by simpa using hx)
      · cases h
    · split at h
      · rename_i c hc
        split at h
        · rename_i q hq
          obtain ⟨q1, q2⟩ := q
          simp only [Option.some.injEq, Prod.mk.injEq] at h
          obtain ⟨rfl, rfl⟩ := h
          obtain ⟨k1, k2, k3⟩ := mapM_ok hq
          refine ⟨by simp [k1], fun i x hx => ?_, fun i x hx => ?_⟩
          · cases i with
            | zero => simp at hx; subst hx; exact ⟨_, rfl, .inr hc⟩
            | succ i => simpa using k2 i x (by simpa using hx)
          · cases i with
            | zero => simp at hx; subst hx; exact ⟨_, rfl, .inr hc⟩
            | succ i => simpa using k3 i x (by simpa using hx)
        · cases h
      · cases h
  | [], _ :: _, r, h => by cases h
  | _ :: _, [], r, h => by cases h
/-- pick: which blocks; mask: which of them are plain, ahead and behind; spec: over the arguments and the blocks as they are numbered then, what comes: the answer, the blocks, and where that is known. -/
structure ObjS where
  pick : List AV → AH → Option (List Nat)
  mask : List Bool
  maskB : List Bool
  spec : List AV → List (TypeId × List AV) → Option (AV × List (TypeId × List AV) × Bool)
def obj? (S : ObjS) (args : List AV) (H : AH) : Ans := match S.pick args H with
  | some ids => match nodupB ids && ids.all (fun id => decide (H.mb ≤ id)) with
    | true => match pickB H ids with
      | some bl => match mapIs (idxI ids) args with
        | some ar => match mapM (idxI ids) S.mask bl with
          | some bs => match S.spec ar bs.1 with
            | some rb => match mapM (bigI H.blks.length ids (rb.2.1.length - ids.length)) S.maskB rb.2.1 with
              | some bl2 => match decide (ids.length ≤ rb.2.1.length) with
                | true => match mapI (bigI H.blks.length ids (rb.2.1.length - ids.length)) rb.1 with
                  | some r => some (r, { H with blks := putAll H.blks ids bl2.1, cd := cdb H.cd (rb.2.2 && (bs.2 && bl2.2)) })
                  | none => none
                | false => none
              | none => none
            | none => none
          | none => none
        | none => none
      | none => none
    | false => none
  | none => none
theorem mapM_len {f : Nat → Option Nat} : ∀ {ms : List Bool} {bs : List (TypeId × List AV)} {r : List (TypeId × List AV) × Bool}, mapM f ms bs = some r → r.1.length = bs.length
  | [], [], r, h => by cases h; rfl
  | p :: ms, b :: bs, r, h => by
    unfold mapM at h
    split at h
    · split at h
      · rename_i q hq; cases h; simp [mapM_len hq]
      · cases h
    · split at h
      · split at h
        · rename_i q hq; cases h; simp [mapM_len hq]
        · cases h
      · cases h
  | [], _ :: _, r, h => by cases h
  | _ :: _, [], r, h => by cases h
theorem obj_ok {ro : Nat → Option (List Value)} {g : FuncId} {S : ObjS} (hf : ∃ fn, Try.prog.funcs[g]? = some fn ∧ fn.body.isSome = true)
    (h : ∀ args bs r bs2, S.spec args bs = some (r, bs2, true) → Fs Try.prog ro g args (hp bs []) fun r' H' => (r' = r ∨ ∃ y, clean r' = some y ∧ Le y r) ∧ ∃ tips more, H' = hp (bs2 ++ more) tips) :
    ∀ args H r H', obj? S args H = some (r, H') → HSound1 Try.prog ro g args H r H' := by
  intro args H r H' hd
  unfold obj? at hd
  split at hd
  · rename_i ids hpick
    split at hd
    · rename_i hc
      rw [Bool.and_eq_true, List.all_eq_true] at hc
      have hn := nodupB_ok hc.1
      split at hd
      · rename_i bl hbl
        obtain ⟨hl, hg⟩ := pickB_get hbl
        split at hd
        · rename_i ar har
          split at hd
          · rename_i bs hbs
            obtain ⟨bs, qa⟩ := bs
            split at hd
            · rename_i rb hs
              obtain ⟨ra, bs2, q⟩ := rb
              split at hd
              · rename_i bl2 hbl2
                obtain ⟨bl2, qb⟩ := bl2
                split at hd
                · rename_i hle
                  have hle := of_decide_eq_true hle
                  have hbl2len := mapM_len hbl2
                  have hlen2 : ids.length ≤ bl2.length := by rw [hbl2len]; exact hle
                  split at hd
                  · rename_i y hy
                    cases hd
                    have hin : ∀ id ∈ ids, ∃ x, H.blks[id]? = some x := fun id hid => by
                      obtain ⟨i, hi⟩ := List.getElem?_of_mem hid
                      obtain ⟨b, hb, _⟩ := hg i id hi
                      exact ⟨b, hb⟩
                    refine ⟨⟨fun x => (cdb_iff.1 x).1, rfl, rfl, rfl, by show _ ≤ (putAll H.blks ids bl2).length; rw [putAll_len _ _ _ hlen2]; omega, Nat.le_refl _, fun i hi hil => ?_, fun _ _ _ => rfl⟩, fun hcd G W cargs hI hR hA => ⟨hf, ?_⟩⟩
                    · refine putAll_other _ _ _ i hlen2 hil (fun hm => ?_)
                      have := of_decide_eq_true (hc.2 i hm)
                      omega
                    have hq : (q && (qa && qb)) = true := (cdb_iff.1 hcd).2
                    simp only [Bool.and_eq_true] at hq
                    obtain ⟨rfl, rfl, rfl⟩ := hq
                    obtain ⟨r1, r2, _⟩ := mapM_ok hbs
                    obtain ⟨_, _, b2⟩ := mapM_ok hbl2
                    have hIs : Inv (objG ids G) (hp bs []) W := hI.objIn hn (r1.trans hl) (fun i id hi => by
                      obtain ⟨b, hb, hb2⟩ := hg i id hi
                      obtain ⟨cs', k1, k2⟩ := r2 i b hb2
                      exact ⟨b.1, b.2, cs', hb, k1, k2⟩)
                    refine ((h _ _ _ _ hs) (objG ids G) W cargs hIs (ro_obj hR hI) (mapIs_rel (fun i j b hij hd => objG_to (idxI_some hij) hd) (fun _ _ p => p) hA _ har)).2.mono ?_
                    rintro e W' ⟨c, G1, r', H1, rfl, ⟨hr', tips, more, rfl⟩, e1, e2, e3⟩
                    have e3 : RV G1 W' ra c := by
                      rcases hr' with rfl | ⟨z, hz, hle⟩
                      · exact e3
                      · exact hle _ _ _ (clean_to (fun _ _ p => p) e3 z hz)
                    have hlm : bl2.length - ids.length = bs2.length - ids.length := by rw [hbl2len]
                    obtain ⟨G', x1, x2, x3⟩ := hI.objOut hn hin e1 e2 hlen2 (fun i x hx => by
                      obtain ⟨cs, k1, k2⟩ := b2 i x hx
                      refine ⟨cs, ?_, by rw [hlm]; exact k2⟩
                      show (bs2 ++ more)[i]? = _
                      rw [List.getElem?_append_left (List.getElem?_eq_some_iff.1 k1).1]
                      exact k1)
                    exact ⟨c, G', rfl, x1, x2.same rfl rfl, x3 _ _ _ (by rw [hlm]; exact hy) e3⟩
                  · cases hd
                · cases hd
              · cases hd
            · cases hd
          · cases hd
        · cases hd
      · cases hd
    · cases hd
  · cases hd
theorem plainC_gi (l : List Int) : plainC (l.map gi) = true := by
  unfold plainC
  induction l with
  | nil => rfl
  | cons x l ih => rw [List.map_cons, List.all_cons, ih]; rfl
end Go.Proofs.Ytdijakobocnceaa.AE
