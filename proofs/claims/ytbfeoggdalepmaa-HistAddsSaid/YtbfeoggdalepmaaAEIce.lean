/-
  What a piece of code made last, of plain cells, is frozen: pointers to it are pointers to what never changes.
-/
import Derived.Test.YtbfeoggdalepmaaAEForget
namespace Go.Proofs.Ytbfeoggdalepmaa.AE
set_option maxRecDepth 100000
open Go.RowKit
mutual
/-- The value with the block k, of cells cs, frozen. -/
def frL (k : Nat) (cs : List AV) : AV → Option AV
  | .v x => some (.v x)
  | .ptr id o => match Nat.beq id k with
    | true => some (.lp (cs.drop o))
    | false => some (.ptr id o)
  | .pi id o => match Nat.beq id k with
    | true => some (.lp (cs.drop o))
    | false => some (.pi id o)
  | .sl id o l c => match Nat.beq id k with
    | true => none
    | false => some (.sl id o l c)
  | .mp id => match Nat.beq id k with
    | true => none
    | false => some (.mp id)
  | .dead => some .dead
  | .lp cells => some (.lp cells)
  | .lst sz xs tip => some (.lst sz xs tip)
  | .agg cells => match frLs k cs cells with
    | some l => some (.agg l)
    | none => none
  | .tuple vs => match frLs k cs vs with
    | some l => some (.tuple l)
    | none => none
  | .fn g a b => match frLs k cs a with
    | some x => match frLs k cs b with
      | some y => some (.fn g x y)
      | none => none
    | none => none
def frLs (k : Nat) (cs : List AV) : List AV → Option (List AV)
  | [] => some []
  | x :: l => match frL k cs x with
    | some y => match frLs k cs l with
      | some r => some (y :: r)
      | none => none
    | none => none
end
def frB (k : Nat) (cs : List AV) : List (TypeId × List AV) → Option (List (TypeId × List AV))
  | [] => some []
  | b :: l => match frLs k cs b.2 with
    | some y => match frB k cs l with
      | some r => some ((b.1, y) :: r)
      | none => none
    | none => none
theorem frLs_cons {k : Nat} {cs : List AV} {x : AV} {l r : List AV} (h : frLs k cs (x :: l) = some r) : ∃ y q, frL k cs x = some y ∧ frLs k cs l = some q ∧ r = y :: q := by
  simp only [frLs] at h
  split at h
  · rename_i y hy
    split at h
    · rename_i q hq
      cases h; exact ⟨y, q, hy, hq, rfl⟩
    · cases h
  · cases h
theorem frB_get {k : Nat} {cs : List AV} : ∀ {B B' : List (TypeId × List AV)}, frB k cs B = some B' → B'.length = B.length ∧ ∀ (i : Nat) (x : TypeId × List AV), B'[i]? = some x → ∃ c0, B[i]? = some (x.1, c0) ∧ frLs k cs c0 = some x.2
  | [], B', h => by cases h; exact ⟨rfl, fun i x hx => by simp at hx⟩
  | b :: B, B', h => by
    unfold frB at h
    split at h
    · rename_i y hy
      split at h
      · rename_i r hr
        cases h
        obtain ⟨h1, h2⟩ := frB_get hr
        refine ⟨by simp [h1], fun i x hx => ?_⟩
        cases i with
        | zero => simp at hx; subst hx; exact ⟨b.2, rfl, hy⟩
        | succ i => simpa using h2 i x (by simpa using hx)
      · cases h
    · cases h
def iceG (k b0 : Nat) (G : Gh) : Gh := { δ := fun i => if i = k then none else G.δ i, tip := G.tip, prot := fun b o => G.prot b o ∨ b = b0, own := G.own }
theorem ice_δ {k b0 : Nat} {G : Gh} {i b : Nat} (h : (iceG k b0 G).δ i = some b) : i ≠ k ∧ G.δ i = some b := by
  have h : (if i = k then none else G.δ i) = some b := h
  split at h
  · cases h
  · exact ⟨by assumption, h⟩
theorem ice_δ' {k b0 : Nat} {G : Gh} {i b : Nat} (h : G.δ i = some b) (hi : i ≠ k) : (iceG k b0 G).δ i = some b := by
  show (if i = k then none else G.δ i) = some b
  rw [if_neg hi]; exact h
section
variable {k b0 : Nat} {G : Gh} {W : World} {vs : List Value}
theorem frL_rel (hd : G.δ k = some b0) (hone : ∀ u ∈ vs, u.oneCell' = true) (hc : ∀ (j : Nat) (u : Value), vs[j]? = some u → W.cell? ⟨b0, j, none⟩ = some u) {x : AV} {c : Value} (h : RV G W x c) : ∀ y, frL k (vs.map .v) x = some y → RV (iceG k b0 G) W y c := by
  have hp : ∀ b o, G.prot b o → (iceG k b0 G).prot b o := fun _ _ p => .inl p
  have key : ∀ off, RV (iceG k b0 G) W (.lp ((vs.map AV.v).drop off)) (.pointer (some ⟨b0, off, none⟩)) := fun off => by
    rw [← List.map_drop]
    refine .lp (cs := vs.drop off) (PVs.map_v _) ⟨fun u hu => hone u (List.mem_of_mem_drop hu), fun _ => ⟨b0, off, rfl, fun j u hu => ⟨.inr rfl, ?_⟩⟩⟩
    rw [List.getElem?_drop] at hu
    exact hc _ u hu
  refine RV.rec (motive_1 := fun x c _ => ∀ y, frL k (vs.map .v) x = some y → RV (iceG k b0 G) W y c) (motive_2 := fun l cs _ => ∀ q, frLs k (vs.map .v) l = some q → RVs (iceG k b0 G) W q cs) ?_ ?_ ?_ ?_ ?_ ?_ ?_ ?_ ?_ ?_ ?_ ?_ ?_ h
  · intro x y h; simp only [frL, Option.some.injEq] at h; subst h; exact .v _
  · intro id off b hb y h
    simp only [frL] at h
    split at h
    · rename_i he
      have he := Nat.eq_of_beq_eq_true he
      subst he
      rw [hd] at hb; cases hb; cases h; exact key off
    · rename_i he
      cases h; exact .ptr (ice_δ' hb (fun e => by subst e; simp at he))
  · intro id off b hb y h
    simp only [frL] at h
    split at h
    · rename_i he
      have he := Nat.eq_of_beq_eq_true he
      subst he
      rw [hd] at hb; cases hb; cases h; exact key off
    · rename_i he
      cases h; exact .pi (ice_δ' hb (fun e => by subst e; simp at he))
  · intro cells b off cs hr hm y h
    simp only [frL, Option.some.injEq] at h
    subst h
    exact .lp (hr.mono hp) (hm.mono hp)
  · intro sz xs tip a n cap cs hn hr hs hm hcc hx ht y h
    simp only [frL, Option.some.injEq] at h
    subst h
    exact .lst hn (hr.mono hp) hs (hm.mono hp) hcc hx ht
  · intro id off len cap b hb y h
    simp only [frL] at h
    split at h
    · cases h
    · rename_i he
      cases h; exact .sl (ice_δ' hb (fun e => by subst e; simp at he))
  · intro cells cs hr ih y h
    simp only [frL] at h
    split at h
    · rename_i l hl; cases h; exact .agg (ih l hl)
    · cases h
  · intro cells cs hr ih y h
    simp only [frL] at h
    split at h
    · rename_i l hl; cases h; exact .tuple (ih l hl)
    · cases h
  · intro g a b x y h1 h2 i1 i2 z h
    simp only [frL] at h
    split at h
    · rename_i p hp
      split at h
      · rename_i q hq; cases h; exact .fn (i1 p hp) (i2 q hq)
      · cases h
    · cases h
  · intro id b hb y h
    simp only [frL] at h
    split at h
    · cases h
    · rename_i he
      cases h; exact .mp (ice_δ' hb (fun e => by subst e; simp at he))
  · intro c y h; simp only [frL, Option.some.injEq] at h; subst h; exact .dead _
  · intro q h; simp only [frLs, Option.some.injEq] at h; subst h; exact .nil
  · intro x c l cs hx hl i1 i2 q h
    obtain ⟨y, q', h1, h2, rfl⟩ := frLs_cons h
    exact .cons (i1 y h1) (i2 q' h2)
theorem frLs_rel (hd : G.δ k = some b0) (hone : ∀ u ∈ vs, u.oneCell' = true) (hc : ∀ (j : Nat) (u : Value), vs[j]? = some u → W.cell? ⟨b0, j, none⟩ = some u) : ∀ {l : List AV} {cs : List Value}, RVs G W l cs → ∀ q, frLs k (vs.map .v) l = some q → RVs (iceG k b0 G) W q cs
  | [], _, h, q, hq => by cases h; simp only [frLs, Option.some.injEq] at hq; subst hq; exact .nil
  | x :: l, _, h, q, hq => by
    cases h with
    | cons h t =>
      obtain ⟨y, q', h1, h2, rfl⟩ := frLs_cons hq
      exact .cons (frL_rel hd hone hc h y h1) (frLs_rel hd hone hc t q' h2)
theorem Inv.ice {H : AH} {B B' : List (TypeId × List AV)} {t : TypeId} (h : Inv G H W) (hb : H.blks = B ++ [(t, vs.map AV.v)]) (ht : OkT t) (hB : frB B.length (vs.map .v) B = some B') :
    ∃ b0, G.δ B.length = some b0 ∧ b0 < W.heap.size ∧ (∀ u ∈ vs, u.oneCell' = true) ∧ (∀ (j : Nat) (u : Value), vs[j]? = some u → W.cell? ⟨b0, j, none⟩ = some u) ∧ Inv (iceG B.length b0 G) { H with blks := B' } W := by
  obtain ⟨b0, ws, e1, e2, e3, e4⟩ := h.blk B.length t (vs.map AV.v) (by rw [hb]; simp)
  have hws : ws.toList = vs := by
    have := vals_rel e3 (show vals? (vs.map AV.v) = some vs by
      clear hb e3 hB
      induction vs with
      | nil => rfl
      | cons u l ih => simp [vals?, AV.val?, ih])
    rw [← this]
  have hone : ∀ u ∈ vs, u.oneCell' = true := fun u hu => e4 ht u (by rw [hws]; exact hu)
  have hc : ∀ (j : Nat) (u : Value), vs[j]? = some u → W.cell? ⟨b0, j, none⟩ = some u := fun j u hu => by
    rw [e2.cell ht, ← Array.getElem?_toList, hws]; exact hu
  obtain ⟨hlen, hget⟩ := frB_get hB
  refine ⟨b0, e1, h.δlt e1, hone, hc, Inv.mk (fun id t' cs' hbk => ?_) (fun i j b hi hj => h.inj i j b (ice_δ hi).2 (ice_δ hj).2) (fun i b hi => h.δown i b (ice_δ hi).2) (fun i b o hi p => ?_) (fun i b hi => ?_) h.tip h.tlen h.row (fun t i b off n cap hi hv => ?_) (fun t i b hi hv id hd => h.tδ t i b hi hv id (ice_δ hd).2) h.tt (fun b o p => ?_) h.olt⟩
  · obtain ⟨c0, g1, g2⟩ := hget id (t', cs') hbk
    have hid : id < B.length := (List.getElem?_eq_some_iff.1 g1).1
    obtain ⟨b, us, f1, f2, f3, f4⟩ := h.blk id t' c0 (by rw [hb, List.getElem?_append_left hid]; exact g1)
    exact ⟨b, us, ice_δ' f1 (by omega), f2, frLs_rel e1 hone hc f3 cs' g2, f4⟩
  · obtain ⟨hne, hi2⟩ := ice_δ hi
    rcases p with p | p
    · exact h.δpr i b o hi2 p
    · exact hne (h.inj _ _ b0 (p ▸ hi2) e1)
  · obtain ⟨hne, hi⟩ := ice_δ hi
    have := h.δlen i b hi
    rw [hb, List.length_append] at this
    show i < B'.length
    simp at this
    omega
  · obtain ⟨x1, x2, x3, x4⟩ := h.trow t i b off n cap hi hv
    refine ⟨x1, x2, fun o ho => .inl (x3 o ho), fun o ho p => ?_⟩
    rcases p with p | p
    · exact x4 o ho p
    · subst p; exact h.tδ t i b hi (by rw [hv]; rfl) _ e1
  · rcases p with p | p
    · exact h.plt b o p
    · subst p; exact h.δlt e1
end
/-- The block that was made last is frozen. -/
theorem Tr.ice {P : Program} {ro : Nat → Option (List Value)} {c : Code} {act : List AV} {H : AH} {Q : Exit → List AV → AH → Prop}
    (h : Tr P ro c act H fun e a h => ∃ (B : List (TypeId × List AV)) (t : TypeId) (vs : List Value) (a' : List AV) (B' : List (TypeId × List AV)), h.blks = B ++ [(t, vs.map AV.v)] ∧ OkT t ∧ H.blks.length ≤ B.length ∧ frLs B.length (vs.map .v) a = some a' ∧ frB B.length (vs.map .v) B = some B' ∧ Q e a' { h with blks := B' }) : Tr P ro c act H Q := by
  intro G W a hI hR hA
  refine wp_mono (h G W a hI hR hA) ?_
  rintro e a1 W1 ⟨act1, H1, G1, ⟨B, t, vs, a', B', q1, q2, q3, q4, q5, q6⟩, e1, i1, r1, d1⟩
  obtain ⟨b0, f1, f2, f3, f4, f5⟩ := i1.ice q1 q2 q5
  refine ⟨a', _, iceG B.length b0 G1, q6, ?_, f5, frLs_rel f1 f3 f4 r1 a' q4, d1⟩
  exact { os := e1.os, tape := e1.tape, output := e1.output, size := e1.size, δ := fun id b hd => ice_δ' (e1.δ id b hd) (by have := hI.δlen id b hd; omega), tip := e1.tip, prot := fun b o p => .inl (e1.prot b o p), cell := e1.cell, own := e1.own, new := e1.new, block := e1.block
          pnew := fun b o hb hn p => by
            rcases p with p | p
            · exact e1.pnew b o hb hn p
            · subst p; exact absurd (e1.new _ hb (i1.δown _ _ f1)) hn }
end Go.Proofs.Ytbfeoggdalepmaa.AE
